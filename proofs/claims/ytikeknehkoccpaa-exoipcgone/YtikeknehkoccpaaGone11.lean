/- Proved: januslaw11.ExoipcGone answers true for every list of deeds and every number (of one that is gone nothing comes, and nothing waits for it), at the commit of this claim; no condition beyond the row's own. -/
import Derived.Test.YtikeknehkoccpaaArgs11
import Derived.Deep.RegionHeld3
import Derived.Deep.DeepCutAuto
import Derived.Deep.CutBlock
namespace Go.Proofs.Ytikeknehkoccpaa
open Go.ChangeShapes Go.WideShapes Go.ChangeAt Go.RowKit Go.Lib Go.Joins
set_option linter.unusedVariables false

theorem rin_at (D : List Int) (a : Option Addr) (cap : Nat) (n : Int) (w : World) (ha : IRow w a D) (hl : D.length ≤ 1000000) :
    Calls Try.prog 22 #[.slice a D.length cap, .int .i64 n] w fun e w' => e = .returned (.bool (D.contains n)) ∧ w' = w := by
  have HA : Hid _ := ha
  clear ha
  go_enter Try.func22, Try.ntmps22
  go_wp2
  go_loopw [5] (fun s wr => ∃ (k : Nat), k ≤ D.length ∧ s = .int .i64 k ∧ Hid (∀ (j : Nat) (x : Int), j < k → D[j]? = some x → x ≠ n) ∧ wr = w) (fun s _ => D.length - (intOf s).toNat)
  case atStart => exact ⟨0, by omega, rfl, (show Hid _ from fun j x hj => absurd hj (Nat.not_lt_zero _)), rfl⟩
  case round =>
    obtain ⟨k, hk, rfl, HN, hw⟩ := hrel
    subst hw
    by_cases hlt : k < D.length
    · obtain ⟨x, hx⟩ : ∃ x, D[k]? = some x := ⟨D[k], List.getElem?_eq_getElem hlt⟩
      obtain ⟨ga, oa, rfl, c0⟩ := HA.out k x hx
      by_cases e : x = n
      · subst e
        have HF : Hid (D.contains x = true) := by show D.contains x = true; rw [List.contains_iff_mem]; exact List.mem_of_getElem? hx
        clear hx HN
        go_wp2
        go_ret
        exact ⟨by rw [HF.out]; rfl, rfl⟩
      · have hne : (x == n) = false := by simp [e]
        have HM : Hid (∀ (j : Nat) (y : Int), j < k + 1 → D[j]? = some y → y ≠ n) := by
          intro j y hj hy
          by_cases ej : j = k
          · rw [ej, hx] at hy
            cases hy
            exact e
          · exact HN.out j y (by omega) hy
        clear hx HN e
        go_wp2
        go_roundw
        case rel => exact ⟨k + 1, by omega, by go_num, HM, by first | rfl | trivial⟩
        case measure => simp [intOf]; omega
    · obtain rfl : k = D.length := by omega
      have HF : Hid (D.contains n = false) := by
        show D.contains n = false
        rw [← Bool.not_eq_true, List.contains_iff_mem]
        intro hm
        obtain ⟨j, hj⟩ := List.mem_iff_getElem?.1 hm
        exact HN.out j n (List.getElem?_eq_some_iff.1 hj).1 hj rfl
      go_wp2
      go_ret
      exact ⟨by rw [HF.out]; rfl, rfl⟩
/-- No message has a number as its sender but those of environments. -/
def Sends (Q : QS) : Prop := ∀ n, ∀ m ∈ qat Q n, isE m.fr = true
theorem Sends.zero : Sends Q0 := fun n m hm => by unfold qat Q0 at hm; split at hm <;> simp at hm
theorem Sends.send {Q : QS} (h : Sends Q) (f t : Int) (a : Option Addr) (c : Nat) (ws : List Int) : Sends (sendQ Q f t a c ws) := by
  by_cases hs : sendR Q f t ws.length = 0
  · intro n m hm
    rw [qat_send hs] at hm
    split at hm
    · rcases List.mem_append.1 hm with hm | hm
      · exact h _ m hm
      · rw [List.mem_singleton] at hm
        subst hm
        exact (sendR_zero hs).1
    · exact h n m hm
  · rw [sendQ_no hs]
    exact h
theorem gone_none {Q : QS} (h : Sends Q) (n k : Int) : (froms (qat (goneQ Q n) k)).contains n = false := by
  rw [← Bool.not_eq_true, List.contains_iff_mem]
  intro hm
  obtain ⟨m, hm, e⟩ := List.mem_map.1 hm
  rw [qat_gone] at hm
  by_cases hn : isE n = true
  · rw [if_pos hn] at hm
    split at hm
    · simp at hm
    · exact dropM_ne hm e
  · rw [if_neg hn] at hm
    have := h k m hm
    rw [e] at this
    exact hn this
theorem gone_zero (Q : QS) (n : Int) : (qat (goneQ Q n) n).length = 0 := by
  rw [qat_gone]
  split
  · rw [if_pos rfl]; rfl
  · rename_i hn
    rw [qat_no Q (by simpa using hn)]
    rfl

set_option maxRecDepth 100000 in
set_option maxHeartbeats 4000000 in
theorem gone_walk (a0' : Option Addr) (len cap : Nat) (n : Int) (w : World) (hlen : len ≤ 9223372036854775807) (hdeeds : Hid (DeedsAt w a0' len)) :
    Calls Try.prog 5 #[.slice a0' len cap, .int .i64 n] w fun e w' => e = .returned (.bool true) ∧ Below w.heap.size w w' := by
  go_enter Try.func5, Try.ntmps5
  go_wp2_with fail
  refine (new_at w).mono ?_
  rintro e w1 ⟨rfl, hA, hB⟩
  obtain ⟨b, hbq⟩ : ∃ b, b = w.heap.size := ⟨_, rfl⟩
  rw [← hbq] at hA ⊢
  have hne := ptr_eq b
  have HA : Hid (IpcAt w1 b b Q0) := hA
  have HB : Hid (Below w.heap.size w w1) := hB
  have hwb : w.heap.size ≤ b := by omega
  have hbw : b ≤ w.heap.size := by omega
  clear hA hB hbq
  go_wp2
  go_loopw [6] (fun s wr => ∃ (k : Nat) (Q : QS), k ≤ len ∧ k ≤ 200 ∧ s = .int .i64 k ∧ IpcAt wr b b Q ∧ Hid (Sends Q) ∧ Below w.heap.size w wr) (fun s _ => 200 - (intOf s).toNat)
  case atStart => exact ⟨0, Q0, by omega, by omega, rfl, HA.out, Sends.zero, HB.out⟩
  case round =>
    clear HA HB
    obtain ⟨k, Q, hk, hk2, rfl, hA, HS, hB⟩ := hrel
    have hsz : b ≤ wr.heap.size := Nat.le_trans hbw hB.size
    by_cases hlt : k < len ∧ k < 200
    · obtain ⟨l1, l2⟩ := hlt
      obtain ⟨gb, off, d, rfl, e0, e1, e2, e3, hok⟩ := (hdeeds.out.below hB) k l1
      obtain ⟨kd, f, t, a, cp, ws⟩ := d
      dsimp only at *
      have g0 : decide ((k : Int) < (len : Int)) = true := decide_eq_true (by omega)
      have g1 : decide ((k : Int) < 200) = true := decide_eq_true (by omega)
      have ik : (k : Int) < (len : Int) := by omega
      have HB : Hid _ := hB
      by_cases hk0 : kd = 0
      · have k0 : (kd == 0) = true := by simpa using hk0
        have hS := send_at b b Q f t a ws cp wr.drew (hA.below ⟨rfl, rfl, rfl, Nat.le_refl _, fun _ _ => rfl⟩) hok.1 hsz
        have HE : Hid (wr.cell? ⟨gb, off + k * 4 + 1, none⟩ = some (.int .i64 f) ∧ wr.cell? ⟨gb, off + k * 4 + 2, none⟩ = some (.int .i64 t) ∧ wr.cell? ⟨gb, off + k * 4 + 3, none⟩ = some (.slice a ws.length cp)) := ⟨e1, e2, e3⟩
        have hgb : gb < b := by
          obtain ⟨g2, o2, d2, e, q, _⟩ := hdeeds.out k l1
          simp only [Option.some.injEq, Addr.mk.injEq] at e
          obtain ⟨rfl, _, _⟩ := e
          exact Nat.lt_of_lt_of_le (cell_lt q) hwb
        clear hA hB hok hk0
        go_wp2_with fail
        refine wp_region_held_drew (S := fun w' => w'.cell? ⟨gb, off + k * 4 + 1, none⟩ = some (.int .i64 f) ∧ w'.cell? ⟨gb, off + k * 4 + 2, none⟩ = some (.int .i64 t) ∧ w'.cell? ⟨gb, off + k * 4 + 3, none⟩ = some (.slice a ws.length cp)) (by kernel_rfl) HE.out (fun hHeld => ?_)
        refine wpAnyH_take (i := 0) (v := ?_) rfl (by kernel_rfl) (by kernel_rfl) (by kernel_rfl) (fun _ _ _ h => h) (Or.inl ⟨by kernel_rfl, ?_⟩) (by assumption) ?_
        rotate_left
        · (intro w hSw; (try dsimp only at hSw); go_simp) <;> with_reducible rfl
        (try simp only [Act.put, List.getElem_toArray, List.getElem_cons_zero, List.setIfInBounds_toArray, List.set_cons_zero, List.set_cons_succ])
        refine wpAnyH_take (i := 1) (v := ?_) rfl (by kernel_rfl) (by kernel_rfl) (by kernel_rfl) (fun _ _ _ h => h) (Or.inl ⟨by kernel_rfl, ?_⟩) (by assumption) ?_
        rotate_left
        · (intro w hSw; (try dsimp only at hSw); go_simp) <;> with_reducible rfl
        (try simp only [Act.put, List.getElem_toArray, List.getElem_cons_zero, List.getElem_cons_succ, List.setIfInBounds_toArray, List.set_cons_zero, List.set_cons_succ])
        refine wpAnyH_take (i := 2) (v := ?_) rfl (by kernel_rfl) (by kernel_rfl) (by kernel_rfl) (fun _ _ _ h => h) (Or.inl ⟨by kernel_rfl, ?_⟩) (by assumption) ?_
        rotate_left
        · (intro w hSw; (try dsimp only at hSw); go_simp) <;> with_reducible rfl
        (try simp only [Act.put, List.getElem_toArray, List.getElem_cons_zero, List.getElem_cons_succ, List.setIfInBounds_toArray, List.set_cons_zero, List.set_cons_succ])
        refine wpAnyH_take (i := 3) (v := ?_) rfl (by kernel_rfl) (by kernel_rfl) (by kernel_rfl) (fun _ _ _ h => h) (Or.inl ⟨by kernel_rfl, ?_⟩) (by assumption) ?_
        rotate_left
        · (intro w hSw; (try dsimp only at hSw); go_simp) <;> with_reducible rfl
        (try simp only [Act.put, List.getElem_toArray, List.getElem_cons_zero, List.getElem_cons_succ, List.setIfInBounds_toArray, List.set_cons_zero, List.set_cons_succ])
        refine wpAnyH_take (i := 4) (v := ?_) rfl (by kernel_rfl) (by kernel_rfl) (by kernel_rfl) (fun _ _ _ h => h) (Or.inl ⟨by kernel_rfl, ?_⟩) (by assumption) ?_
        rotate_left
        · (intro w hSw; (try dsimp only at hSw); go_simp) <;> with_reducible rfl
        (try simp only [Act.put, List.getElem_toArray, List.getElem_cons_zero, List.getElem_cons_succ, List.setIfInBounds_toArray, List.set_cons_zero, List.set_cons_succ])
        refine wpAnyH_take (i := 5) (v := ?_) rfl (by kernel_rfl) (by kernel_rfl) (by kernel_rfl) (fun _ _ _ h => h) (Or.inl ⟨by kernel_rfl, ?_⟩) (by assumption) ?_
        rotate_left
        · (intro w hSw; (try dsimp only at hSw); go_simp) <;> with_reducible rfl
        (try simp only [Act.put, List.getElem_toArray, List.getElem_cons_zero, List.getElem_cons_succ, List.setIfInBounds_toArray, List.set_cons_zero, List.set_cons_succ])
        refine wpAnyH_take (i := 6) (v := ?_) rfl (by kernel_rfl) (by kernel_rfl) (by kernel_rfl) (fun _ _ _ h => h) (Or.inl ⟨by kernel_rfl, ?_⟩) (by assumption) ?_
        rotate_left
        · (intro w hSw; (try dsimp only at hSw); go_simp) <;> with_reducible rfl
        (try simp only [Act.put, List.getElem_toArray, List.getElem_cons_zero, List.getElem_cons_succ, List.setIfInBounds_toArray, List.set_cons_zero, List.set_cons_succ])
        refine wpAnyH_take (i := 7) (v := ?_) rfl (by kernel_rfl) (by kernel_rfl) (by kernel_rfl) (fun _ _ _ h => h) (Or.inl ⟨by kernel_rfl, ?_⟩) (by assumption) ?_
        rotate_left
        · (intro w hSw; (try dsimp only at hSw); go_simp) <;> with_reducible rfl
        (try simp only [Act.put, List.getElem_toArray, List.getElem_cons_zero, List.getElem_cons_succ, List.setIfInBounds_toArray, List.set_cons_zero, List.set_cons_succ])
        refine wpAnyH_take (i := 8) (v := ?_) rfl (by kernel_rfl) (by kernel_rfl) (by kernel_rfl) (fun _ _ _ h => h) (Or.inl ⟨by kernel_rfl, ?_⟩) (by assumption) ?_
        rotate_left
        · (intro w hSw; (try dsimp only at hSw); go_simp) <;> with_reducible rfl
        (try simp only [Act.put, List.getElem_toArray, List.getElem_cons_zero, List.getElem_cons_succ, List.setIfInBounds_toArray, List.set_cons_zero, List.set_cons_succ])
        refine wpAnyH_take (i := 9) (v := ?_) rfl (by kernel_rfl) (by kernel_rfl) (by kernel_rfl) (fun _ _ _ h => h) (Or.inl ⟨by kernel_rfl, ?_⟩) (by assumption) ?_
        rotate_left
        · (intro w hSw; (try dsimp only at hSw); go_simp) <;> with_reducible rfl
        (try simp only [Act.put, List.getElem_toArray, List.getElem_cons_zero, List.getElem_cons_succ, List.setIfInBounds_toArray, List.set_cons_zero, List.set_cons_succ])
        refine wpAnyH_take (i := 10) (v := ?_) rfl (by kernel_rfl) (by kernel_rfl) (by kernel_rfl) (fun _ _ _ h => h) (Or.inl ⟨by kernel_rfl, ?_⟩) (by assumption) ?_
        rotate_left
        · (intro w hSw; (try dsimp only at hSw); go_simp) <;> with_reducible rfl
        (try simp only [Act.put, List.getElem_toArray, List.getElem_cons_zero, List.getElem_cons_succ, List.setIfInBounds_toArray, List.set_cons_zero, List.set_cons_succ])
        refine wpAnyH_take (i := 11) (v := ?_) rfl (by kernel_rfl) (by kernel_rfl) (by kernel_rfl) (fun _ _ _ h => h) (Or.inl ⟨by kernel_rfl, ?_⟩) (by assumption) ?_
        rotate_left
        · (intro w hSw; (try dsimp only at hSw); go_simp) <;> with_reducible rfl
        (try simp only [Act.put, List.getElem_toArray, List.getElem_cons_zero, List.getElem_cons_succ, List.setIfInBounds_toArray, List.set_cons_zero, List.set_cons_succ])
        refine wpAnyH_take (i := 12) (v := ?_) rfl (by kernel_rfl) (by kernel_rfl) (by kernel_rfl) (fun _ _ _ h => h) (Or.inl ⟨by kernel_rfl, ?_⟩) (by assumption) ?_
        rotate_left
        · (intro w hSw; (try dsimp only at hSw); go_simp) <;> with_reducible rfl
        (try simp only [Act.put, List.getElem_toArray, List.getElem_cons_zero, List.getElem_cons_succ, List.setIfInBounds_toArray, List.set_cons_zero, List.set_cons_succ])
        refine wpAnyH_take (i := 13) (v := ?_) rfl (by kernel_rfl) (by kernel_rfl) (by kernel_rfl) (fun _ _ _ h => h) (Or.inl ⟨by kernel_rfl, ?_⟩) (by assumption) ?_
        rotate_left
        · (intro w hSw; (try dsimp only at hSw); go_simp) <;> with_reducible rfl
        (try simp only [Act.put, List.getElem_toArray, List.getElem_cons_zero, List.getElem_cons_succ, List.setIfInBounds_toArray, List.set_cons_zero, List.set_cons_succ])
        refine wpAnyH_take (i := 14) (v := ?_) rfl (by kernel_rfl) (by kernel_rfl) (by kernel_rfl) (fun _ _ _ h => h) (Or.inl ⟨by kernel_rfl, ?_⟩) (by assumption) ?_
        rotate_left
        · (intro w hSw; (try dsimp only at hSw); go_simp) <;> with_reducible rfl
        (try simp only [Act.put, List.getElem_toArray, List.getElem_cons_zero, List.getElem_cons_succ, List.setIfInBounds_toArray, List.set_cons_zero, List.set_cons_succ])
        refine wpAnyH_take (i := 15) (v := ?_) rfl (by kernel_rfl) (by kernel_rfl) (by kernel_rfl) (fun _ _ _ h => h) (Or.inl ⟨by kernel_rfl, ?_⟩) (by assumption) ?_
        rotate_left
        · (intro w hSw; (try dsimp only at hSw); go_simp) <;> with_reducible rfl
        (try simp only [Act.put, List.getElem_toArray, List.getElem_cons_zero, List.getElem_cons_succ, List.setIfInBounds_toArray, List.set_cons_zero, List.set_cons_succ])
        refine wpAnyH_ready (rs := [16]) (by kernel_rfl) (by simp) ?_
        refine AllReadyH.cons rfl (fun K hK => ?_) AllReadyH.nil
        go_simp
        refine hS.mono ?_
        rintro e w2 ⟨rfl, ⟨a2, c2, hA2⟩, hT2⟩
        have hbl2 := hT2.below hsz
        have HA2 : Hid _ := hA2
        have HB2 : Hid (Below w.heap.size w w2) := (HB.out.drew).trans (hbl2.mono hwb)
        have hkp : w2.cell? ⟨gb, off + k * 4 + 1, none⟩ = some (.int .i64 f) ∧ w2.cell? ⟨gb, off + k * 4 + 2, none⟩ = some (.int .i64 t) ∧ w2.cell? ⟨gb, off + k * 4 + 3, none⟩ = some (.slice a ws.length cp) := ⟨(hbl2.cell (p := ⟨gb, _, none⟩) hgb).trans HE.out.1, (hbl2.cell (p := ⟨gb, _, none⟩) hgb).trans HE.out.2.1, (hbl2.cell (p := ⟨gb, _, none⟩) hgb).trans HE.out.2.2⟩
        clear hA2 hT2 hbl2
        refine hK.out _ _ hkp (fun hHeld => ?_)
        clear hK K
        (try simp only [Act.put, List.getElem_toArray, List.getElem_cons_zero, List.getElem_cons_succ, List.setIfInBounds_toArray, List.set_cons_zero, List.set_cons_succ])
        refine wpAnyH_done (by kernel_rfl) ?_ _
        clear e0 e1 e2 e3 hkp HE hS
        go_wp2_with fail
        go_roundw
        case rel => exact ⟨k + 1, _, by omega, by omega, by go_num, HA2.out, Sends.send HS.out _ _ _ _ _, HB2.out⟩
        case measure => simp [intOf]; omega
      · have k0 : (kd == 0) = false := by simpa using hk0
        have HA : Hid _ := hA
        clear hA hB hok hk0
        go_wp2_with fail
        go_roundw
        case rel => exact ⟨k + 1, Q, by omega, by omega, by go_num, HA.out, HS, HB.out⟩
        case measure => simp [intOf]; omega
    · have HB : Hid _ := hB
      have hG := gone_at b b Q n wr hA
      have HQ : Hid (∀ k, (froms (qat (goneQ Q n) k)).contains n = false) := fun k => gone_none HS.out n k
      have HZ : Hid ((qat (goneQ Q n) n).length = 0) := gone_zero Q n
      have stop : (decide ((k : Int) < (len : Int)) = false ∧ len ≤ k) ∨ (decide ((k : Int) < (len : Int)) = true ∧ decide ((k : Int) < 200) = false ∧ k < len ∧ 200 ≤ k) := by
        simp only [decide_eq_true_eq, decide_eq_false_iff_not]
        omega
      clear hA hB hlt hdeeds HS
      rcases stop with ⟨g0, l0⟩ | ⟨g0, g1, l0, l1⟩
      all_goals
        go_wp2_with fail
        refine hG.mono ?_
        rintro e w2 ⟨rfl, hA2, hT2⟩
        have HA2 : Hid _ := hA2
        have HB2 : Hid (Below w.heap.size w w2) := HB.out.trans ((hT2.below hsz).mono hwb)
        clear hA2 hT2 hG HB
        generalize goneQ Q n = Q' at *
        go_wp2
        go_loopw [7] (fun s wz => ∃ (m : Nat), m ≤ 12 ∧ s = .int .i64 m ∧ IpcAt wz b b Q' ∧ Below w.heap.size w wz) (fun s _ => 12 - (intOf s).toNat)
        case atStart => exact ⟨0, by omega, rfl, HA2.out, HB2.out⟩
        case round =>
          clear HA2 HB2
          obtain ⟨m, hm, rfl, hA, hB⟩ := hrel
          have HA : Hid _ := hA
          have HB : Hid _ := hB
          by_cases hlt : m < 12
          · have hF := from_at b b Q' m wr hA
            have hl4 := hA.len m
            have HC : Hid _ := HQ.out m
            have hfl : (froms (qat Q' m)).length ≤ 4 := by simpa [froms] using hl4
            generalize froms (qat Q' m) = D at *
            clear hA hB hl4
            go_wp2_with fail
            refine hF.mono ?_
            rintro e w3 ⟨v, rfl, hown, hb3⟩
            obtain ⟨av, cv, rfl, hI⟩ := own_irow hown
            have hR := rin_at D av cv n w3 hI (by omega)
            rw [HC.out] at hR
            have HB3 : Hid _ := hb3
            clear hown hI hb3 hF
            go_wp2_with fail
            refine hR.mono ?_
            rintro e w4 ⟨rfl, hw⟩
            rw [hw]
            clear hw w4 hR
            go_wp2
            go_roundw
            case rel => exact ⟨m + 1, by omega, by go_num, IpcAt.below HA.out HB3.out, HB.out.trans (HB3.out.mono HB.out.size)⟩
            case measure => simp [intOf]; omega
          · obtain rfl : m = 12 := by omega
            have hWt := waiting_at b b Q' n wr hA
            rw [HZ.out] at hWt
            clear hA hB
            go_wp2_with fail
            refine hWt.mono ?_
            rintro e w3 ⟨rfl, hw⟩
            rw [hw]
            clear hw w3
            go_wp2_with fail
            refine (awake_at _).mono ?_
            rintro e w6 ⟨rfl, hb6⟩
            go_wp2
            go_ret
            exact ⟨rfl, HB.out.trans (hb6.mono HB.out.size)⟩

theorem own : ownKnob Try.prog.godebug = none := by kernel_rfl
theorem laidOut : laidOutB Try.prog = true := by kernel_rfl

set_option maxRecDepth 100000 in
theorem gone_lifted (os : Os) (started : os.Started) (H : Type) (enc : TypeId × Value → H) :
    ReturnsInHanded {} Try.checked os 5 .any (Rows.exoipcGoneSpec.pre6 enc Try.prog Try.f5 Rows.exoipcGoneRow.domain false) (Rows.exoipcGoneSpec.post enc Try.prog Try.f5 false true false false) := by
  refine returnsInHanded_of_change_sized (C := Try.checked) own started (by kernel_rfl) Try.func5
    (ChangeSpec.witness6 (enc := enc) (C := Try.checked) false ⟨#[], #[.slice none 0 0, .int .i64 0], []⟩ 8 (by kernel_rfl) (by kernel_rfl) (by kernel_rfl) (by kernel_rfl)) ?_
  intro W base args ds gs before hval0 hW hcnd hsz _
  have hval : ∀ (j : Nat) t v, Try.f5.params[j]? = some t → args[j]? = some v → Value.okWide Try.prog W .any base t v := hval0
  have hW' := hW
  obtain ⟨p, q, hA0, hV, rfl, hfz, hnd⟩ := hW
  have hA : DataW.TrodAll enc Try.prog W 0 (fun _ => true) true Try.f5.params.toList args.toList ds p := hA0
  rw [Try.params5] at hA hval
  obtain ⟨v0, vs0, d0, ds0, p0, q0, hargs, rfl, rfl, h0, r0⟩ := trodAll_cons hA
  obtain ⟨v1, vs1, d1, ds1, p1, q1, rfl, rfl, rfl, h1, r1⟩ := trodAll_cons r0
  obtain ⟨rfl, rfl, rfl⟩ := trodAll_nil r1
  obtain rfl : args = #[v0, v1] := by cases args; simp_all
  obtain ⟨rfl, rfl⟩ := trodVars_none hV
  have k0 := h0
  have lt0 : ∀ x ∈ p0, x.block < W.heap.size := by obtain ⟨m, hm⟩ := k0; exact DataW.trod_lt m _ _ _ hm
  obtain ⟨a0, len0, cap0, rfl⟩ := okWide_slice Try.underlying22 (hval 0 22 v0 rfl rfl)
  obtain ⟨a1, rfl, rfl, rfl, w1⟩ := open_int Try.underlying3 (hval 1 3 v1 rfl rfl) h1
  clear hA0 hval0
  have hw0 : ∀ k ∈ d0.weights Try.prog 22, k ≤ reachBytes := fun k hk => by
    have := List.all_eq_true.1 hsz k (DataW.weights_mem_each (j := 0) (t := 22) (d := d0) rfl rfl k hk)
    simpa using this
  have hdeeds : len0 ≤ 9223372036854775807 ∧ DeedsAt W a0 len0 := by
    obtain ⟨fuel, hf⟩ := h0
    exact deeds_in (by simpa [Value.cells] using hf) hw0
  have hwalk : Calls Try.prog 5 #[.slice a0 len0 cap0, .int .i64 a1] W fun e w' => e = .returned (.bool true) ∧ Below W.heap.size W w' := gone_walk a0 len0 cap0 a1 W hdeeds.1 hdeeds.2
  refine hwalk.mono fun e W' ⟨he, bel⟩ => ?_
  subst he
  exact ⟨_, rfl, _, _, _, [], _, [], hW', trodAll_mk1 (shut_bool Try.underlying4 _), (trodAll_cons_mk (Below.trod laidOut (by kernel_rfl) (of_decide_eq_true (by kernel_rfl)) k0 bel lt0) (trodAll_cons_mk (shut_int Try.underlying3 w1) trodAll_mk0)), rfl, bel.frame _, fun h => by cases h⟩

theorem gone_holds : Rows.ExoipcGoneSaid :=
  OpenClaim.holds_of_wide 5 Try.f5 rfl rfl rfl rfl rfl rfl rfl ⟨rfl, rfl, rfl, rfl, rfl⟩ rfl rfl rfl rfl rfl (by kernel_rfl) Try.func5 (by kernel_rfl)
    (of_decide_eq_true (by kernel_rfl)) (by unfold Func.isWrapper; first | (rw [if_pos (by decide +kernel)]; kernel_rfl) | (rw [if_neg (by decide +kernel)]; exact ⟨rfl, rfl⟩))
    (fun os started H enc _ => gone_lifted os started H enc)
#print axioms gone_holds
end Go.Proofs.Ytikeknehkoccpaa
