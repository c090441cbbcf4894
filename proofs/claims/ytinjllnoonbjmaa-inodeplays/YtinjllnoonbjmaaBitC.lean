/- Package bitmap: Words, reachesPast, Of; janusref01.Words at two equal rows; what is none. -/
import Derived.Test.YtinjllnoonbjmaaBitB
namespace Go.Proofs.Ytinjllnoonbjmaa
open Go.RowKit
namespace Bi
set_option linter.unusedVariables false

/-- The value v is a slice of the words ws, wherever they lie. -/
def NRd (w : World) (v : Value) (ws : List Nat) : Prop :=
  ∃ a cap, v = .slice a ws.length cap ∧ ws.length ≤ cap ∧ ∀ (j x : Nat), ws[j]? = some x → ∃ g off, a = some ⟨g, off, none⟩ ∧ w.cell? ⟨g, off + j, none⟩ = some (.int .u64 ((x : Nat) : Int))
theorem NRd.below {w w' : World} {v : Value} {ws : List Nat} (h : NRd w v ws) (hb : Below w.heap.size w w') : NRd w' v ws := by
  obtain ⟨a, cap, e, h1, hf⟩ := h
  refine ⟨a, cap, e, h1, fun j x hj => ?_⟩
  obtain ⟨g, off, ea, hc⟩ := hf j x hj
  exact ⟨g, off, ea, (hb.cell (cell_lt hc)).trans hc⟩
theorem NRd.has {w : World} {v : Value} {ws : List Nat} (h : NRd w v ws) (hl : 0 < ws.length) : ∃ g o cap, v = .slice (some ⟨g, o, none⟩) ws.length cap ∧ ∀ (j x : Nat), ws[j]? = some x → w.cell? ⟨g, o + j, none⟩ = some (.int .u64 ((x : Nat) : Int)) := by
  obtain ⟨a, cap, e, _, hf⟩ := h
  obtain ⟨y, hy⟩ : ∃ y, ws[0]? = some y := ⟨ws[0], List.getElem?_eq_getElem (by omega)⟩
  obtain ⟨g, o, rfl, _⟩ := hf 0 y hy
  refine ⟨g, o, cap, e, fun j x hx => ?_⟩
  obtain ⟨g', o', e', hc⟩ := hf j x hx
  simp only [Option.some.injEq, Addr.mk.injEq] at e'
  obtain ⟨rfl, rfl, _⟩ := e'
  exact hc
theorem NRd.is {w : World} {v : Value} {ws : List Nat} (h : NRd w v ws) : ∃ a cap, v = .slice a ws.length cap := by
  obtain ⟨a, cap, e, _⟩ := h
  exact ⟨a, cap, e⟩
theorem nrd_of_row {w : World} {g : Nat} {ws : List Nat} {t : TypeId} (h : w.heap[g]? = some (.cells (nrow ws) t)) : NRd w (.slice (some ⟨g, 0, none⟩) ws.length ws.length) ws :=
  ⟨_, _, rfl, Nat.le_refl _, fun j x hj => ⟨g, 0, rfl, by
    have hl := (List.getElem?_eq_some_iff.1 hj).1
    rw [cell_of_heap h, Nat.zero_add, nrow_get ws j hl, List.getD_eq_getElem?_getD, hj]
    rfl⟩⟩

/-- Words as cells. -/
def nvs (ws : List Nat) : List Value := ws.map (fun x => Value.int .u64 ((x : Nat) : Int))
theorem nvs_len (ws : List Nat) : (nvs ws).length = ws.length := by simp [nvs]
theorem nadd (g o j : Nat) : (⟨g, o, none⟩ : Addr).add j = ⟨g, o + j, none⟩ := by unfold Addr.add; split <;> simp_all
/-- A copy of words over as many. -/
theorem copy_words {w : World} {g : Nat} {us ws : List Nat} (h : w.heap[g]? = some (.cells (nrow us) 99)) (hl : us.length = ws.length) (p o : Nat)
    (hw : ∀ (j x : Nat), ws[j]? = some x → w.cell? ⟨p, o + j, none⟩ = some (.int .u64 ((x : Nat) : Int))) (ty : TypeId) (c1 c2 : Nat) :
    (Builtin.copy_ #[100, 100] ty #[.slice (some ⟨g, 0, none⟩) ws.length c1, .slice (some ⟨p, o, none⟩) ws.length c2]).run Try.prog w = .ok (goInt ws.length) (w.setRow g (nrow ws)) := by
  have hr := run_copy_row Try.prog w 100 100 ty 99 g 0 ws.length c1 ⟨p, o, none⟩ ws.length c2 (nrow us) 99 (nvs ws) Try.underlying100 (by kernel_rfl) h
    (by simp [nvs_len])
    (fun j v hv => by
      simp only [nvs, List.getElem?_map, Option.map_eq_some_iff] at hv
      obtain ⟨x, hx, rfl⟩ := hv
      rw [nadd]
      exact hw j x hx)
    (by simp [nvs_len, nrow_size, hl]) (fun v hv => by
      simp only [nvs, List.mem_map] at hv
      obtain ⟨x, _, rfl⟩ := hv
      rfl)
  rw [hr]
  have e : ((nrow us).toList.take 0 ++ nvs ws ++ (nrow us).toList.drop (0 + (nvs ws).length)).toArray = nrow ws := by
    apply Array.ext'
    simp [nrow, nvs, hl]
  rw [e, nvs_len]

theorem words_nil (w : World) :
    Calls Try.prog 89 #[.pointer none] w fun e w' => e = .returned (.slice none 0 0) ∧ w' = w := by
  go_enter Try.func89, Try.ntmps89
  go_wp2
  go_ret
  exact ⟨rfl, rfl⟩
theorem words_at (b g n : Nat) (ws : List Nat) (w : World) (h : BmAt w b g n ws) :
    Calls Try.prog 89 #[.pointer (some ⟨b, 0, none⟩)] w fun e w' => ∃ v, e = .returned v ∧ NRd w' v ws ∧ Below w.heap.size w w' := by
  have c1 := h.c1
  have hL : ws.length ≤ 1024 := by have := h.wf.len; have := h.le; omega
  have hb := below_alloc w (.cells (nrow (List.replicate ws.length 0)) 99)
  have c2 := (h.below hb).c1
  have hr := fun ty c c' => copy_words (w := w.alloc (.cells (nrow (List.replicate ws.length 0)) 99)) (us := List.replicate ws.length 0) (ws := ws) (heap_alloc_new _ _) (by simp) g 0 (fun j x hx => by
    have hj := (List.getElem?_eq_some_iff.1 hx).1
    have := (h.below hb).word hj
    rw [List.getD_eq_getElem?_getD, hx] at this
    rw [Nat.zero_add]
    exact this) ty c c'
  have hmk := fun w => make_words ws.length hL w
  rw [setRow_alloc_new] at hr
  have HN : Hid (NRd (w.alloc (.cells (nrow ws) 99)) (.slice (some ⟨w.heap.size, 0, none⟩) ws.length ws.length) ws) := nrd_of_row (heap_alloc_new _ _)
  have HBm : Hid (Below w.heap.size w (w.alloc (.cells (nrow ws) 99))) := below_alloc _ _
  clear h hb
  generalize nrow ws = R at *
  generalize nrow (List.replicate ws.length 0) = Z at *
  generalize hLL : ws.length = L at *
  clear hLL
  go_enter Try.func89, Try.ntmps89
  go_wp2
  go_ret
  exact ⟨_, rfl, HN.out, HBm.out⟩

set_option maxHeartbeats 1000000 in
theorem words_same (u v : Value) (ws : List Nat) (w : World) (h1 : NRd w u ws) (h2 : NRd w v ws) (hl : ws.length ≤ 1000) :
    Calls Try.prog 60 #[u, v] w fun e w' => e = .returned (.bool true) ∧ ∃ q, w' = w.drewN q := by
  obtain ⟨a, cap, rfl, k1, f1⟩ := h1
  obtain ⟨b, cap2, rfl, k2, f2⟩ := h2
  go_enter Try.func60, Try.ntmps60
  go_wp2
  go_loopw [5] (fun i wr => ∃ (k q : Nat), k ≤ ws.length ∧ i = .int .i64 k ∧ wr = w.drewN q) (fun i _ => ws.length - (intOf i).toNat)
  case atStart => exact ⟨0, 0, by omega, rfl, rfl⟩
  case round =>
    obtain ⟨k, q, hk, rfl, rfl⟩ := hrel
    by_cases hlk : k < ws.length
    · have he := List.getElem?_eq_getElem hlk
      obtain ⟨g, o, rfl, c1⟩ := f1 k _ he
      obtain ⟨g', o', rfl, c2⟩ := f2 k _ he
      generalize ws[k] = x at he c1 c2
      have hint : (k : Int) < (ws.length : Int) := by omega
      clear f1 f2 he
      go_wp2
      go_quiet (fail)
      go_wp2
      go_roundw
      case rel => exact ⟨k + 1, _, by omega, by go_num, rfl⟩
      case measure => simp [intOf]; omega
    · have : k = ws.length := by omega
      subst this
      clear f1 f2
      go_wp2
      go_ret
      exact ⟨rfl, q, rfl⟩

theorem first_nil (w : World) :
    Calls Try.prog 65 #[.pointer none, .func (.func 66) #[] #[]] w fun e w' => e = .returned (.int .i64 (-1)) ∧ w' = w := by
  go_enter Try.func65, Try.ntmps65
  go_wp2_with fail
  refine (len_nil w).mono ?_
  rintro e w1 ⟨rfl, hw⟩
  rw [hw]
  clear hw w1
  go_wp2
  go_loopw [8] (fun s wr => s = .int .i64 0 ∧ wr = w) (fun _ _ => 0)
  case atStart => exact ⟨rfl, rfl⟩
  case round =>
    obtain ⟨rfl, rfl⟩ := hrel
    go_wp2
    go_ret
    exact ⟨rfl, rfl⟩
theorem count_nil (w : World) :
    Calls Try.prog 80 #[.pointer none, .func (.func 66) #[] #[]] w fun e w' => e = .returned (.int .i64 0) ∧ w' = w := by
  go_enter Try.func80, Try.ntmps80
  go_wp2_with fail
  refine (len_nil w).mono ?_
  rintro e w1 ⟨rfl, hw⟩
  rw [hw]
  clear hw w1
  go_wp2
  go_loopw [5, 9] (fun c s wr => c = .int .i64 0 ∧ s = .int .i64 0 ∧ wr = w) (fun _ _ _ => 0)
  case atStart => exact ⟨rfl, rfl, rfl⟩
  case round =>
    obtain ⟨rfl, rfl, rfl⟩ := hrel
    go_wp2
    go_ret
    exact ⟨rfl, rfl⟩
theorem left_nil (w : World) :
    Calls Try.prog 57 #[.pointer none] w fun e w' => e = .returned (.int .i64 0) ∧ w' = w := by
  go_enter Try.func57, Try.ntmps57
  go_wp2_with (go_at_call 80; refine (count_nil _).mono ?_; rintro e w' ⟨rfl, rfl⟩)
  go_ret
  exact ⟨rfl, rfl⟩
theorem take_nil (w : World) :
    Calls Try.prog 35 #[.pointer none] w fun e w' => e = .returned (.int .i64 (-1)) ∧ w' = w := by
  go_enter Try.func35, Try.ntmps35
  go_wp2_with (first | (go_at_call 65; refine (first_nil _).mono ?_; rintro e w' ⟨rfl, rfl⟩) | (go_at_call 45; refine (mark_nil _ _ _).mono ?_; rintro e w' ⟨rfl, rfl⟩))
  go_ret
  exact ⟨rfl, rfl⟩

/-- Whether a bit from n on is set in the last word. -/
def reachB (n : Nat) (ws : List Nat) : Bool := decide (n % 64 ≠ 0) && decide (ws.getD (n / 64) 0 / 2 ^ (n % 64) ≠ 0)
theorem reach_no {n : Nat} {ws : List Nat} (hl : ws.length = (n + 63) / 64) (hlt : ∀ x ∈ ws, x < 18446744073709551616) (h : reachB n ws = false) : Wf n ws := by
  refine ⟨hl, hlt, fun i hi => ?_⟩
  by_cases hf : ws.length ≤ i / 64
  · exact bt_far ws i hf
  · have h0 : n % 64 ≠ 0 := by omega
    have hq : i / 64 = n / 64 := by omega
    simp only [reachB, h0, ne_eq, not_false_eq_true, decide_true, Bool.true_and, decide_eq_false_iff_not, Decidable.not_not] at h
    unfold bt
    rw [hq]
    apply Nat.testBit_lt_two_pow
    have hx : ws.getD (n / 64) 0 < 2 ^ (n % 64) := by
      rcases Nat.div_eq_zero_iff.1 h with h | h
      · have := Nat.two_pow_pos (n % 64); omega
      · exact h
    exact Nat.lt_of_lt_of_le hx (Nat.pow_le_pow_right (by omega) (by omega))
theorem reach_yes {n : Nat} {ws : List Nat} (h : reachB n ws = true) : ¬ Wf n ws := by
  intro hw
  simp only [reachB, Bool.and_eq_true, decide_eq_true_eq] at h
  obtain ⟨h0, h1⟩ := h
  apply h1
  rw [Nat.div_eq_zero_iff]
  right
  apply Nat.lt_pow_two_of_testBit
  intro j hj
  by_cases hj64 : j < 64
  · have := hw.past (n / 64 * 64 + j) (by omega)
    rwa [bt_at _ _ _ hj64] at this
  · apply Nat.testBit_lt_two_pow
    exact Nat.lt_of_lt_of_le (hw.word _) (Nat.pow_le_pow_right (n := 2) (by omega) (show 64 ≤ j by omega))
theorem div_ne (x r : Nat) : (((x : Nat) : Int) / 2 ^ r != 0) = decide (x / 2 ^ r ≠ 0) := by
  have e : ((x : Nat) : Int) / 2 ^ r = ((x / 2 ^ r : Nat) : Int) := by simp
  rw [e]
  generalize x / 2 ^ r = q
  cases q with
  | zero => rfl
  | succ q => simp; omega
theorem reach_at (n : Nat) (ws : List Nat) (v : Value) (w : World) (h : NRd w v ws) (hl : ws.length = (n + 63) / 64) (hn : 1 ≤ n) (hn2 : n ≤ 1024) :
    Calls Try.prog 93 #[.int .i64 (n : Int), v] w fun e w' => e = .returned (.bool (reachB n ws)) ∧ w' = w := by
  obtain ⟨g, o, cap, rfl, hc⟩ := h.has (by omega)
  have ht := tmod64 n
  have hd := tdiv64 n
  by_cases h0 : n % 64 = 0
  · have HR : Hid (reachB n ws = false) := by show _ = _; simp [reachB, h0]
    rw [h0] at ht
    clear hd hc h
    go_enter Try.func93, Try.ntmps93
    go_wp2
    go_ret
    exact ⟨by rw [HR.out]; rfl, rfl⟩
  · have hk : n / 64 < ws.length := by omega
    have c1 := hc (n / 64) (ws.getD (n / 64) 0) (by rw [List.getD_eq_getElem?_getD, List.getElem?_eq_getElem hk]; rfl)
    have HR : Hid (reachB n ws = decide (ws.getD (n / 64) 0 / 2 ^ (n % 64) ≠ 0)) := by show _ = _; simp [reachB, h0]
    have hr0 : n % 64 < 64 := Nat.mod_lt _ (by omega)
    generalize ws.getD (n / 64) 0 = x at *
    obtain ⟨p, hp⟩ : ∃ p, p = n / 64 := ⟨_, rfl⟩
    obtain ⟨r, hr⟩ : ∃ r, r = n % 64 := ⟨_, rfl⟩
    have hwr := wrap_small p (by omega)
    rw [← hp] at hd hk c1
    rw [← hr] at ht h0 HR hr0
    have hne : ((r : Int) != 0) = true := by simp; omega
    clear hp hr hc h hl
    generalize ws.length = L at *
    go_enter Try.func93, Try.ntmps93
    go_wp2
    go_ret
    refine ⟨?_, rfl⟩
    rw [HR.out, ← div_ne]
    rfl

/-- Whether there is such a bitmap. -/
abbrev ofOK (n : Int) (ws : List Nat) : Prop := 1 ≤ n ∧ n ≤ 1024 ∧ Wf n.toNat ws
set_option maxHeartbeats 800000 in
theorem of_at (n : Int) (ws : List Nat) (v : Value) (w : World) (h : NRd w v ws) (hlt : ∀ x ∈ ws, x < 18446744073709551616) (hsz : ws.length ≤ 4611686018427387904) :
    Calls Try.prog 86 #[.int .i64 n, v] w fun e w' => ∃ p r, e = .returned (.tuple #[.pointer p, .int .i64 r]) ∧ Below w.heap.size w w' ∧
      ((r = 0 ∧ ofOK n ws ∧ ∃ b g, p = some ⟨b, 0, none⟩ ∧ w.heap.size ≤ b ∧ w.heap.size ≤ g ∧ BmAt w' b g n.toNat ws) ∨ (r = 101 ∧ ¬ ofOK n ws ∧ p = none)) := by
  have H : Hid (NRd w v ws) := h
  obtain ⟨a, cap, rfl⟩ := h.is
  clear h
  by_cases hn : 1 ≤ n ∧ n ≤ 1024
  · obtain ⟨n, rfl⟩ : ∃ m : Nat, n = (m : Int) := ⟨n.toNat, by omega⟩
    have hN := new_at n w (by omega) (by omega)
    rw [Int.toNat_natCast]
    by_cases hl : ws.length = (n + 63) / 64
    · have HL : Hid (ws.length = (n + 63) / 64) := hl
      have hpos : 0 < ws.length := by omega
      rw [← hl] at hN
      go_enter Try.func86, Try.ntmps86
      go_wp2_with fail
      refine hN.mono ?_
      rintro e w1 ⟨rfl, hB, hb, hs⟩
      have c1 := hB.c1
      rw [List.length_replicate] at c1
      have HB : Hid _ := hB
      have Hb : Hid (Below w.heap.size w w1) := hb
      have HN1 : Hid (NRd w1 (.slice a ws.length cap) ws) := NRd.below H.out hb
      obtain ⟨g, o, cap', hv, hcell⟩ := NRd.has HN1.out hpos
      simp only [Value.slice.injEq] at hv
      obtain ⟨rfl, -, rfl⟩ := hv
      have hcp := fun ty c c' => copy_words (w := w1) (us := List.replicate ws.length 0) (ws := ws) hB.row (by simp) g o hcell ty c c'
      have hR := reach_at n ws _ w1 HN1.out HL.out (by omega) (by omega)
      obtain ⟨b, hbq⟩ : ∃ b, b = w.heap.size + 1 := ⟨_, rfl⟩
      obtain ⟨gg, hgq⟩ : ∃ gg, gg = w.heap.size := ⟨_, rfl⟩
      have HBQ : Hid (b = w.heap.size + 1) := hbq
      have HGQ : Hid (gg = w.heap.size) := hgq
      rw [← hbq] at c1 HB ⊢
      rw [← hgq] at c1 HB hcp
      clear hB hb hs hl hN hcell hbq hgq H
      cases hre : reachB n ws with
      | true =>
        have HNo : Hid (¬ Wf n ws) := reach_yes hre
        rw [hre] at hR
        clear hre hcp
        generalize ws.length = L at *
        go_wp2_with fail
        refine hR.mono ?_
        rintro e w2 ⟨rfl, hw⟩
        rw [hw]
        clear hw w2 hR
        go_wp2
        go_ret2
        exact ⟨_, _, rfl, Hb.out, Or.inr ⟨rfl, fun k => HNo.out k.2.2, rfl⟩⟩
      | false =>
        have HY : Hid (Wf n ws) := reach_no HL.out hlt hre
        rw [hre] at hR
        have HF : Hid (BmAt (w1.setRow gg (nrow ws)) b gg n ws ∧ Upd gg w1 (w1.setRow gg (nrow ws))) := by
          have hB : BmAt w1 b gg n (List.replicate ws.length 0) := HB.out
          refine ⟨⟨?_, setRow_heap w1 gg _ _ _ _ hB.row, HY.out, hB.pos, hB.le⟩, Upd.setRow _ _ _⟩
          rw [setRow_other _ _ _ _ hB.ne, hB.head, List.length_replicate]
        clear hre
        generalize nrow ws = R at *
        generalize ws.length = L at *
        go_wp2_with fail
        refine hR.mono ?_
        rintro e w2 ⟨rfl, hw⟩
        rw [hw]
        clear hw w2 hR
        go_wp2
        go_ret2
        have e1 := HBQ.out
        have e2 := HGQ.out
        exact ⟨_, _, rfl, Hb.out.trans (HF.out.2.below (by omega) Hb.out.size), Or.inl ⟨rfl, ⟨by omega, by omega, HY.out⟩, b, gg, rfl, by omega, by omega, HF.out.1⟩⟩
    · have HNo : Hid (¬ Wf n ws) := fun k => hl k.len
      have hne : ((ws.length : Int) != (((n + 63) / 64 : Nat) : Int)) = true := by simp only [bne_iff_ne, ne_eq]; omega
      go_enter Try.func86, Try.ntmps86
      go_wp2_with fail
      refine hN.mono ?_
      rintro e w1 ⟨rfl, hB, hb, hs⟩
      have c1 := hB.c1
      rw [List.length_replicate] at c1
      have Hb : Hid (Below w.heap.size w w1) := hb
      generalize (n + 63) / 64 = L at *
      clear hB hb hs hl hN H
      go_wp2
      go_ret2
      exact ⟨_, _, rfl, Hb.out, Or.inr ⟨rfl, fun k => HNo.out k.2.2, rfl⟩⟩
  · have hN := new_no n w (by omega)
    go_enter Try.func86, Try.ntmps86
    go_wp2_with fail
    refine hN.mono ?_
    rintro e w1 ⟨rfl, hw⟩
    rw [hw]
    clear hw w1 hN
    go_wp2
    go_ret2
    exact ⟨_, _, rfl, Below.refl _ _, Or.inr ⟨rfl, fun k => hn ⟨k.1, k.2.1⟩, rfl⟩⟩
end Bi
end Go.Proofs.Ytinjllnoonbjmaa
