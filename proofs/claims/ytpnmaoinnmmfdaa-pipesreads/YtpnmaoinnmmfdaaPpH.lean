/- Package pipes: readBytes. -/
import Derived.Test.YtpnmaoinnmmfdaaPpG
namespace Go.Proofs.Ytpnmaoinnmmfdaa
open Go.RowKit Go.Lib
set_option linter.unusedVariables false

theorem elemW : Try.prog.elem 43 = 67 := by kernel_rfl
/-- Words that are words. -/
def U64 (ws : List Int) : Prop := ∀ x ∈ ws, 0 ≤ x ∧ x < 18446744073709551616
theorem u64_get {ws : List Int} (h : U64 ws) {j : Nat} {x : Int} (hx : ws[j]? = some x) : 0 ≤ x ∧ x < 18446744073709551616 := h x (List.mem_of_getElem? hx)
theorem U64.drop {ws : List Int} (h : U64 ws) (n : Nat) : U64 (ws.drop n) := fun x hx => h x (List.mem_of_mem_drop hx)
set_option maxRecDepth 100000 in
/-- l[j:] of words. -/
theorem cut_wl (D : List Int) (a : Option Addr) (len cap j : Nat) (hl : len = D.length) (hj : j ≤ len) (hcap : len ≤ cap) : ∃ a2 c2, (∀ V, (Instr.slice 43 (.slice a len cap) (some (.int .i64 (j : Int))) none none).run Try.prog V = .ok (.slice a2 (len - j) c2) V) ∧ len - j ≤ c2 ∧ (∀ W, Rd W a D → Rd W a2 (D.drop j)) := by
  obtain ⟨i0, hi0, hzz⟩ := Option.map_eq_some_iff.1 wordInfo
  simp only [Prod.mk.injEq] at hzz
  refine ⟨if cap = j then a else a.map (·.add (j * 1)), cap - j, fun V => ?_, by omega, fun W ha => ?_⟩
  · have hk0 : (j : Int) ≤ (len : Int) := by omega
    rw [run_slice_l V 43 _ _ _ Try.underlying43 _ _ (by omega) hk0]
    simp [sizeOf, typeInfo, elemW, hi0, sliced, hzz.2.1]
  · intro i x hx
    rw [List.getElem?_drop] at hx
    have hlt := (List.getElem?_eq_some_iff.1 hx).1
    obtain ⟨g, off, e, hc⟩ := ha (j + i) x hx
    refine ⟨g, off + j, ?_, ?_⟩
    · rw [if_neg (by omega), e]
      simp [Addr.add]
    · rw [Nat.add_assoc]
      exact hc
theorem okB_no {ws : List Int} {m k : Nat} {x : Int} (hx : ws[k]? = some x) (hk : k < m) (h : 255 < x) : okB (ws.take m) = false := by
  cases hb : okB (ws.take m) with
  | false => rfl
  | true =>
    unfold okB at hb
    rw [List.all_eq_true] at hb
    have := hb x (List.mem_of_getElem? (i := k) (by rw [List.getElem?_take_of_lt hk]; exact hx))
    simp only [Bool.and_eq_true, decide_eq_true_eq] at this
    omega
theorem okB_all {ws : List Int} {m : Nat} (h : ∀ j x, j < m → ws[j]? = some x → 0 ≤ x ∧ x ≤ 255) : okB (ws.take m) = true := by
  unfold okB
  rw [List.all_eq_true]
  intro x hx
  obtain ⟨j, hj⟩ := List.mem_iff_getElem?.1 hx
  have hl := (List.getElem?_eq_some_iff.1 hj).1
  rw [List.length_take] at hl
  rw [List.getElem?_take_of_lt (by omega)] at hj
  have := h j x (by omega) hj
  rw [decide_eq_true this.1, decide_eq_true this.2]
  rfl
theorem byt_unB {ws : List Int} {m k : Nat} {x : Int} (hx : ws[k]? = some x) (hk : k < m) (h0 : 0 ≤ x) (h : x ≤ 255) : byt (unB (ws.take m)) k = x := by
  have h1 : (unB (ws.take m))[k]? = some (UInt8.ofNat (x % 256).toNat) := by
    unfold unB
    rw [List.getElem?_map, List.getElem?_take_of_lt hk, hx]
    rfl
  rw [byt_get h1, show (x % 256).toNat = x.toNat by omega]
  simp
  omega
set_option maxRecDepth 100000 in
set_option maxHeartbeats 4000000 in
theorem readBytes_at (a : Option Addr) (n cap : Nat) (D : List Int) (w : World) (hr : Rd w a D) (hn : n = D.length) (hu : U64 D) (hn9 : n ≤ 2000) :
    Calls Try.prog 35 #[.slice a n cap] w fun x w' => (rdB D = none → x = .returned (.tuple #[.slice none 0 0, .bool false])) ∧ (∀ l, rdB D = some l → ∃ g, x = .returned (.tuple #[.slice (some ⟨g, 0, none⟩) l.length l.length, .bool true]) ∧ w.heap.size ≤ g ∧ Bt w' g l) ∧ Below w.heap.size w w' := by
  cases D with
  | nil =>
    obtain rfl : n = 0 := hn
    clear hr hu hn9
    go_enter Try.func35, Try.ntmps35
    go_wp2
    go_ret2
    exact ⟨fun _ => rfl, fun l h => (by cases h), Below.refl _ _⟩
  | cons c t =>
    obtain ⟨g, off, rfl, c0⟩ := hr 0 c rfl
    have hb := u64_get hu (j := 0) (x := c) rfl
    rw [Nat.add_zero] at c0
    have hnl : n = t.length + 1 := hn
    have n0 : (0 : Int) < (n : Int) := by omega
    have n1 : ((n : Int) == 0) = false := beq_false_of_ne (by omega)
    have n0' : 0 < n := by omega
    have hw1 : IntKind.i64.wrap ((n : Int) - 1) = (n : Int) - 1 := by simp [IntKind.wrap, IntKind.bits, IntKind.signed]; omega
    have hw2 : IntKind.u64.wrap ((n : Int) - 1) = (n : Int) - 1 := by simp [IntKind.wrap, IntKind.bits, IntKind.signed]; omega
    have HRd : Hid (Rd w (some ⟨g, off, none⟩) (c :: t)) := hr
    have HU : Hid (U64 (c :: t)) := hu
    have HNl : Hid (n = t.length + 1) := hnl
    obtain ⟨hb0, hb1⟩ := hb
    clear hr hn hu
    by_cases h8 : 8 < c
    · have HN : Hid (rdB (c :: t) = none) := by show _ = _; rw [rdB, if_pos (Or.inl h8)]
      have g1 : decide (8 < c) = true := decide_eq_true h8
      clear hnl
      go_enter Try.func35, Try.ntmps35
      go_wp2
      go_ret2
      exact ⟨fun _ => rfl, fun l h => (by rw [HN.out] at h; cases h), Below.refl _ _⟩
    · have g1 : decide (8 < c) = false := decide_eq_false h8
      by_cases hl : (n : Int) - 1 < c
      · have HN : Hid (rdB (c :: t) = none) := by show _ = _; rw [rdB, if_pos (Or.inr (by omega))]
        have g2 : decide ((n : Int) - 1 < c) = true := decide_eq_true hl
        clear hnl
        go_enter Try.func35, Try.ntmps35
        go_wp2
        go_ret2
        exact ⟨fun _ => rfl, fun l h => (by rw [HN.out] at h; cases h), Below.refl _ _⟩
      · have g2 : decide ((n : Int) - 1 < c) = false := decide_eq_false hl
        obtain ⟨m, rfl⟩ : ∃ m : Nat, c = (m : Int) := ⟨c.toNat, by omega⟩
        have hw3 : IntKind.i64.wrap (m : Int) = (m : Int) := by simp [IntKind.wrap, IntKind.bits, IntKind.signed]; omega
        have hm8 : m ≤ 8 := by omega
        have hmt : m ≤ t.length := by omega
        have hmn : m + 1 ≤ n := by omega
        have HD : Hid (rdB ((m : Int) :: t) = if okB (t.take m) then some (unB (t.take m)) else none) := by show _ = _; rw [rdB, if_neg (by omega), Int.toNat_natCast]
        have hmk := make_bytes m hm8
        have hll : (unB (t.take m)).length = m := by rw [unB_len, List.length_take]; omega
        have HLL : Hid ((unB (t.take m)).length = m) := hll
        have HZ : Hid (brow (unB (t.take m)) 0 = Array.replicate m (.int .u8 0)) := by show _ = _; rw [brow_zero, hll]
        have HSt : Hid (∀ k x, k < m → t[k]? = some x → 0 ≤ x → x ≤ 255 → (brow (unB (t.take m)) k).setIfInBounds k (.int .u8 x) = brow (unB (t.take m)) (k + 1)) := fun k x hk hx h0 h1 => by
          have := brow_set (unB (t.take m)) k (by rw [hll]; exact hk)
          rw [byt_unB hx hk h0 h1] at this
          exact this
        have HFin : Hid (∀ W g, W.heap[g]? = some (.cells (brow (unB (t.take m)) m) 5 (0, 0)) → Bt W g (unB (t.take m))) := fun W g h => brow_bt (by rw [hll]; exact h)
        have HGet : Hid (∀ k, k < m → (brow (unB (t.take m)) k)[k]? = some (.int .u8 0)) := fun k hk => by rw [brow_get _ k k (by rw [hll]; exact hk), if_neg (by omega)]
        clear hnl hll h8 hl
        go_enter Try.func35, Try.ntmps35
        go_wp2
        rw [← HZ.out]
        clear hmk HZ
        have HN0 : Hid ((w.alloc (.cells (brow (unB (t.take m)) 0) 5)).heap[w.heap.size]? = some (.cells (brow (unB (t.take m)) 0) 5 (0, 0))) := heap_alloc_new _ _
        have HB2 : Hid (Below w.heap.size w (w.alloc (.cells (brow (unB (t.take m)) 0) 5))) := below_alloc _ _
        generalize w.alloc (.cells (brow (unB (t.take m)) 0) 5) = W0 at *
        obtain ⟨G, hG⟩ : ∃ G, G = w.heap.size := ⟨_, rfl⟩
        rw [← hG] at HN0 ⊢
        have HG : Hid (G = w.heap.size) := hG
        clear hG c0
        go_loopw [32] (fun i wr => ∃ (k : Nat), k ≤ m ∧ i = .int .i64 k ∧ (∀ j x, j < k → t[j]? = some x → 0 ≤ x ∧ x ≤ 255) ∧ wr.heap[G]? = some (.cells (brow (unB (t.take m)) k) 5 (0, 0)) ∧ Below w.heap.size w wr) (fun i _ => m - (intOf i).toNat)
        case atStart => exact ⟨0, by omega, rfl, fun j x hj => by omega, HN0.out, HB2.out⟩
        case round =>
          clear HN0 HB2
          obtain ⟨k, hk, rfl, hall, hN, hB⟩ := hrel
          have HB : Hid (Below w.heap.size w wr) := hB
          have HN : Hid (wr.heap[G]? = some (.cells (brow (unB (t.take m)) k) 5 (0, 0))) := hN
          have HAll : Hid (∀ j x, j < k → t[j]? = some x → 0 ≤ x ∧ x ≤ 255) := hall
          by_cases hlt : k < m
          · have i1 : decide ((k : Int) < (m : Int)) = true := decide_eq_true (by omega)
            have hki : (k : Int) < (m : Int) := by omega
            obtain ⟨x, hx⟩ : ∃ x, t[k]? = some x := ⟨t[k], List.getElem?_eq_getElem (by omega)⟩
            have hxu := u64_get HU.out (j := k + 1) (x := x) (by simpa using hx)
            obtain ⟨_, _, e1, d0⟩ := HRd.out (k + 1) x (by simpa using hx)
            simp only [Option.some.injEq, Addr.mk.injEq, and_true] at e1
            obtain ⟨rfl, rfl⟩ := e1
            have d1 := (hB.cell (cell_lt d0)).trans d0
            have d2 : wr.cell? ⟨g, off + (1 + k), none⟩ = some (.int .u64 x) := by rw [Nat.add_comm 1 k]; exact d1
            have hgl : g ≠ G := by have := cell_lt d0; have := HG.out; show g ≠ G; dsimp only at *; omega
            have hsum : IntKind.i64.wrap (1 + (k : Int)) = 1 + (k : Int) := by simp [IntKind.wrap, IntKind.bits, IntKind.signed]; omega
            have hin : 1 + (k : Int) < (n : Int) := by omega
            have hin2 : 1 + k < n := by omega
            have z1 : wr.cell? ⟨G, k, none⟩ = some (.int .u8 0) := (cell_of_heap hN).trans (HGet.out k hlt)
            have f1 : wr.frozen? ⟨G, k, none⟩ = false := frozen_of_heap hN
            have HX : Hid (t[k]? = some x) := hx
            obtain ⟨x0, x1⟩ := hxu
            by_cases h255 : 255 < x
            · have i2 : decide (255 < x) = true := decide_eq_true h255
              have HNo : Hid (rdB ((m : Int) :: t) = none) := by show _ = _; rw [HD.out, okB_no hx hlt h255]; rfl
              clear hx hB hN hall d0 d1
              go_wp2
              go_ret2
              exact ⟨fun _ => rfl, fun l h => (by rw [HNo.out] at h; cases h), HB.out⟩
            · have i2 : decide (255 < x) = false := decide_eq_false h255
              have hw8 : IntKind.u8.wrap x = x := by simp [IntKind.wrap, IntKind.bits, IntKind.signed]; omega
              have HS : Hid ((brow (unB (t.take m)) k).setIfInBounds k (.int .u8 x) = brow (unB (t.take m)) (k + 1)) := HSt.out k x hlt hx x0 (by omega)
              have HAll2 : Hid (∀ j y, j < k + 1 → t[j]? = some y → 0 ≤ y ∧ y ≤ 255) := fun j y hj hy => by
                rcases Nat.lt_or_ge j k with q | q
                · exact HAll.out j y q hy
                · have : j = k := by omega
                  rw [this, HX.out] at hy
                  have := Option.some.inj hy
                  omega
              clear hx hB hN hall d0 d1
              go_wp2
              go_roundw
              case rel =>
                refine ⟨k + 1, by omega, by go_num, HAll2.out, ?_, HB.out.trans ((Upd.setCell G k _ _).below (by have := HG.out; omega) HB.out.size)⟩
                rw [setCell_eq_setRow wr G k _ _ _ _ HN.out, setRow_heap wr G _ _ _ _ HN.out, HS.out]
              case measure => simp [intOf]; omega
          · obtain rfl : k = m := by omega
            have i1 : decide ((k : Int) < (k : Int)) = false := decide_eq_false (by omega)
            have HYes : Hid (rdB ((k : Int) :: t) = some (unB (t.take k))) := by show _ = _; rw [HD.out, if_pos (okB_all HAll.out)]
            clear hB hN hall
            go_wp2
            go_ret2
            refine ⟨fun h => (by rw [HYes.out] at h; cases h), fun l h => ?_, HB.out⟩
            rw [HYes.out] at h
            cases h
            refine ⟨G, ?_, by have := HG.out; omega, HFin.out _ _ HN.out⟩
            rw [HLL.out]
            rfl
end Go.Proofs.Ytpnmaoinnmmfdaa
