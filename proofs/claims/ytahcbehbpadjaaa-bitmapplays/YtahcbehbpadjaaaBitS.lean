/- The reference of layer 14: Words, Of. -/
import Derived.Test.YtahcbehbpadjaaaBitR
namespace Go.Proofs.Ytahcbehbpadjaaa
open Go.ChangeShapes Go.WideShapes Go.ChangeAt Go.RowKit Go.Lib
set_option linter.unusedVariables false

/-- Words whose bits below k are the bools', and no others are set. -/
structure WTo (L : List Bool) (k : Nat) (ws : List Nat) : Prop where
  len : ws.length = (L.length + 63) / 64
  lt : ∀ x ∈ ws, x < 18446744073709551616
  bits : ∀ i, bt ws i = (decide (i < k) && bf L i)
theorem wto_zero (L : List Bool) : WTo L 0 (List.replicate ((L.length + 63) / 64) 0) :=
  ⟨by simp, (wf_zero L.length).lt, fun i => by rw [bt_zero]; simp⟩
theorem WTo.hit {L : List Bool} {k : Nat} {ws : List Nat} (h : WTo L k ws) (hk : k < L.length) (hb : bf L k = true) : WTo L (k + 1) (mkW ws k true) := by
  have hw : k / 64 < ws.length := by rw [h.len]; omega
  refine ⟨by rw [← h.len]; simp [mkW], fun x hx => ?_, fun i => ?_⟩
  · rcases List.mem_or_eq_of_mem_set hx with hx | hx
    · exact h.lt x hx
    · rw [hx]
      refine wd_lt _ _ _ ?_
      rw [List.getD_eq_getElem?_getD, List.getElem?_eq_getElem hw]
      exact h.lt _ (List.getElem_mem hw)
  · rw [bt_mkW _ _ _ _ hw, h.bits]
    by_cases e : i = k
    · subst e; rw [if_pos rfl, hb]; simp
    · rw [if_neg e]
      congr 1
      by_cases q : i < k
      · rw [decide_eq_true q, decide_eq_true (by omega)]
      · rw [decide_eq_false q, decide_eq_false (by omega)]
theorem WTo.miss {L : List Bool} {k : Nat} {ws : List Nat} (h : WTo L k ws) (hb : bf L k = false) : WTo L (k + 1) ws := by
  refine ⟨h.len, h.lt, fun i => ?_⟩
  rw [h.bits]
  by_cases e : i = k
  · subst e; rw [hb]; simp
  · congr 1
    by_cases q : i < k
    · rw [decide_eq_true q, decide_eq_true (by omega)]
    · rw [decide_eq_false q, decide_eq_false (by omega)]
theorem WTo.word {L : List Bool} {k : Nat} {ws : List Nat} (h : WTo L k ws) (i : Nat) : ws.getD i 0 < 18446744073709551616 := by
  rw [List.getD_eq_getElem?_getD]
  cases e : ws[i]? with
  | none => simp
  | some x => exact h.lt x (List.mem_of_getElem? e)
theorem WTo.all {L : List Bool} {ws : List Nat} (h : WTo L L.length ws) : Wf L.length ws ∧ ∀ i, i < L.length → bt ws i = bf L i :=
  ⟨⟨h.len, h.lt, fun i hi => by rw [h.bits, decide_eq_false (by omega)]; rfl⟩, fun i hi => by rw [h.bits, decide_eq_true hi]; rfl⟩

/-- Block g holds the words ws. -/
structure WsAt (w : World) (g : Nat) (ws : List Nat) : Prop where
  row : w.heap[g]? = some (.cells (nrow ws) 54)
theorem WsAt.cell {w : World} {g : Nat} {ws : List Nat} (h : WsAt w g ws) {i : Nat} (hi : i < ws.length) : w.cell? ⟨g, i, none⟩ = some (.int .u64 ((ws.getD i 0 : Nat) : Int)) := by rw [cell_of_heap h.row]; exact nrow_get ws i hi
theorem WsAt.set {w : World} {g : Nat} {ws : List Nat} (h : WsAt w g ws) (i x : Nat) : WsAt (w.setCell ⟨g, i, none⟩ (.int .u64 ((x : Nat) : Int))) g (ws.set i x) := by
  constructor
  rw [setCell_eq_setRow w g _ _ _ _ _ h.row, setRow_heap w g _ _ _ _ h.row, nrow_set]

theorem shl_one' (i : Nat) : IntKind.u64.wrap (2 ^ (i % 64)) = ((mk i : Nat) : Int) := by
  have := shl_one i
  rwa [Nat.min_eq_left (by have := Nat.mod_lt i (show 0 < 64 by omega); omega)] at this

set_option maxHeartbeats 1000000 in
theorem rwords_at (c h : Nat) (L : List Bool) (w : World) (k : RbAt w c h L) :
    Calls Try.prog 20 #[.pointer (some ⟨c, 0, none⟩)] w fun e w' => ∃ v ws, e = .returned v ∧ NRd w' v ws ∧ Wf L.length ws ∧ (∀ i, i < L.length → bt ws i = bf L i) ∧ Below w.heap.size w w' := by
  have c0 := k.c0
  have hle := k.le
  have hpos := k.pos
  have HK : Hid (RbAt w c h L) := k
  clear k
  obtain ⟨N, hN⟩ : ∃ N, N = L.length := ⟨_, rfl⟩
  have HN : Hid (N = L.length) := hN
  obtain ⟨m, hm⟩ : ∃ m, m = (N + 63) / 64 := ⟨_, rfl⟩
  have HM : Hid (m = (N + 63) / 64) := hm
  have hm2 : m ≤ 1024 := by omega
  have hd : ((N : Int) + 63).tdiv 64 = ((m : Nat) : Int) := by
    rw [Int.tdiv_eq_ediv_of_nonneg (by omega)]
    omega
  have hmk := fun w => make_words m hm2 w
  obtain ⟨W, hW⟩ : ∃ W, W = w.alloc (.cells (nrow (List.replicate m 0)) 54) := ⟨_, rfl⟩
  obtain ⟨g, hg⟩ : ∃ g, g = w.heap.size := ⟨_, rfl⟩
  have HS : Hid (WsAt W g (List.replicate m 0)) := ⟨by rw [hW, hg]; exact heap_alloc_new _ _⟩
  have HB : Hid (Below w.heap.size w W) := by rw [hW]; exact below_alloc _ _
  have HZ : Hid (WTo L 0 (List.replicate m 0)) := by rw [hm, hN]; exact wto_zero L
  rw [← hN] at c0 hle hpos ⊢
  have HW : Hid _ := hW
  have HG : Hid (g = w.heap.size) := hg
  clear hN hm hW hg
  go_enter Try.func20, Try.ntmps20
  go_wp2
  rw [← HW.out, ← HG.out]
  clear HW hmk c0
  go_loopw [4] (fun s wr => ∃ (i : Nat) (ws : List Nat), i ≤ N ∧ s = .int .i64 i ∧ WTo L i ws ∧ WsAt wr g ws ∧ Below w.heap.size w wr) (fun s _ => N - (intOf s).toNat)
  case atStart => exact ⟨0, _, by omega, rfl, HZ.out, HS.out, HB.out⟩
  case round =>
    clear HZ HS HB
    obtain ⟨i, ws, hi, rfl, hZ, hS, hB⟩ := hrel
    have HZ : Hid _ := hZ
    have HS : Hid _ := hS
    have HB : Hid _ := hB
    have hwl : ws.length = m := by rw [hZ.len, HM.out, HN.out]
    have hKr := HK.out.below hB
    have c0 := hKr.c0
    rw [← HN.out] at c0
    by_cases hlt : i < N
    · have hii : (i : Int) < (N : Int) := by omega
      have c1 := hKr.bl.cell (i := i) (by rw [← HN.out]; exact hlt)
      have hb : L.getD i false = bf L i := rfl
      rw [hb] at c1
      clear hb
      cases hB2 : bf L i with
      | false =>
        rw [hB2] at c1
        have HBF : Hid (bf L i = false) := hB2
        clear hZ hS hB hKr hwl hB2
        go_wp2
        go_roundw
        case rel => exact ⟨i + 1, ws, by omega, by go_num, WTo.miss HZ.out HBF.out, HS.out, HB.out⟩
        case measure => simp [intOf]; omega
      | true =>
        rw [hB2] at c1
        have HBF : Hid (bf L i = true) := hB2
        have hq : i / 64 < m := by have := HM.out; omega
        have c2 := hS.cell (i := i / 64) (by omega)
        have f2 : wr.frozen? ⟨g, i / 64, none⟩ = false := frozen_of_heap hS.row
        have ha := set_bit (ws.getD (i / 64) 0) i (hZ.word _)
        have hd1 := tdiv64 i
        have ht1 := tmod64 i
        have hsh := shl_one' i
        have HF : Hid (WsAt (wr.setCell ⟨g, i / 64, none⟩ (.int .u64 ((wd (ws.getD (i / 64) 0) i true : Nat) : Int))) g (mkW ws i true)) := hS.set _ _
        have hr64 : i % 64 < 64 := Nat.mod_lt _ (by omega)
        generalize wd (ws.getD (i / 64) 0) i true = r1 at *
        generalize ws.getD (i / 64) 0 = x at *
        generalize mk i = M at *
        obtain ⟨p, hp⟩ : ∃ p, p = i / 64 := ⟨_, rfl⟩
        obtain ⟨r, hr⟩ : ∃ r, r = i % 64 := ⟨_, rfl⟩
        have hwr := wrap_small p (by omega)
        rw [← hp] at hd1 hq c2 f2 HF
        rw [← hr] at ht1 hsh hr64
        clear hp hr hZ hS hB hKr hwl hB2
        go_wp2
        go_roundw
        case rel => exact ⟨i + 1, _, by omega, by go_num, WTo.hit HZ.out (by rw [← HN.out]; exact hlt) HBF.out, HF.out, upd_belowR HB.out (Upd.setCell g p wr _) (by have := HG.out; omega) HB.out.size⟩
        case measure => simp [intOf]; omega
    · obtain rfl : i = N := by omega
      have HE : Hid (Wf L.length ws ∧ ∀ j, j < L.length → bt ws j = bf L j) := WTo.all (by rw [← HN.out]; exact HZ.out)
      rw [← HN.out] at HE
      have HR : Hid (NRd wr (.slice (some ⟨g, 0, none⟩) m m) ws) := by
        have := nrd_of_row HS.out.row
        rwa [hwl] at this
      clear hZ hS hB hKr hwl
      go_wp2
      go_ret
      exact ⟨_, ws, rfl, HR.out, HE.out.1, HE.out.2, HB.out⟩
end Go.Proofs.Ytahcbehbpadjaaa
