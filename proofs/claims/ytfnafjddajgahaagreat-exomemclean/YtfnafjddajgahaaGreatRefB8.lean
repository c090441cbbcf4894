/- The reference of package caps: Get, Has. -/
import Derived.Test.YtfnafjddajgahaaGreatRefA8
namespace Go.Proofs.YtfnafjddajgahaaGreat
open Go.RowKit
namespace Ca
set_option linter.unusedVariables false

theorem rfindI_range (L : List Ce) (n s : Int) : rfindI L n s = -1 ∨ ∃ (k : Nat) (d : Ce), rfindI L n s = (k : Int) ∧ L[k]? = some d ∧ atB n s d = true := by
  unfold rfindI
  split
  · rename_i h
    refine Or.inr ⟨rfind L n s, L[rfind L n s], rfl, List.getElem?_eq_getElem h, ?_⟩
    exact List.findIdx_getElem (w := h)
  · exact Or.inl rfl
/-- What the reference's slot has. -/
def rgetX (L : List Ce) (n s : Int) : Cp := match L[rfind L n s]? with
  | none => Cp.no
  | some d => d.x
theorem rget_at (M c : Nat) (sv : Value) (L : List Ce) (last n s : Int) (w : World) (h : RefAt M w c sv L last) (hl : L.length ≤ 1000) :
    Calls Tryz.prog 49 #[.pointer (some ⟨c, 0, none⟩), .int .i64 n, .int .i64 s] w fun e w' => e = .returned (.tuple #[.agg (cpRow (rgetX L n s)), .bool (decide (0 ≤ rfindI L n s))]) ∧ Below w.heap.size w w' := by
  obtain ⟨W, hW⟩ : ∃ W, W = w.alloc (.cells #[.int .i64 0, .int .i64 0, .int .i64 0, .int .i64 0] 95) := ⟨_, rfl⟩
  have hbW : Below w.heap.size w W := by rw [hW]; exact below_alloc _ _
  have hr := h.below hbW
  have hf := find_at M c sv L last n s W hr hl
  have hlt := h.lt
  have hnew : W.heap[w.heap.size]? = some (.cells #[.int .i64 0, .int .i64 0, .int .i64 0, .int .i64 0] 95) := by rw [hW]; exact heap_alloc_new _ _
  have HB : Hid _ := hbW
  rcases rfindI_range L n s with e | ⟨k, d, e, hd, hat⟩
  · have hx : rgetX L n s = Cp.no := by
      have hlen : rfind L n s = L.length := by
        unfold rfindI at e
        split at e
        · omega
        · rename_i h1
          have := List.findIdx_le_length (xs := L) (p := atB n s)
          unfold rfind at h1 ⊢
          omega
      unfold rgetX
      rw [hlen, List.getElem?_eq_none (Nat.le_refl _)]
    rw [hx, e]
    rw [e] at hf
    clear hx e hr hnew h
    go_enter Tryz.func49, Tryz.ntmps49
    go_wp2_with fail
    rw [← hW]
    refine hf.mono ?_
    rintro e w1 ⟨rfl, hw1⟩
    rw [hw1, hW]
    clear hw1 w1
    go_wp2
    refine bodyPost_ret (v := .tuple #[.agg (cpRow Cp.no), .bool false]) ?_ rfl ⟨rfl, ?_⟩
    · rw [results_cell_tmp rfl]
      go_simp
    · exact below_alloc _ _
  · have hx : rgetX L n s = d.x := by
      have hkf : rfind L n s = k := by
        unfold rfindI at e
        split at e
        · omega
        · omega
      unfold rgetX
      rw [hkf, hd]
    rw [hx, e]
    rw [e] at hf
    obtain ⟨g, cap, hsv, ⟨_, d4, d5, d6, d7⟩⟩ := hr.at hd
    have c0 := hr.c0
    have hkl : k < L.length := (List.getElem?_eq_some_iff.1 hd).1
    have hki : (k : Int) < (L.length : Int) := by omega
    subst hsv
    have f0 : W.frozen? ⟨w.heap.size, 0, none⟩ = false := frozen_of_heap hnew
    have f1 : W.frozen? ⟨w.heap.size, 1, none⟩ = false := frozen_of_heap hnew
    have f2 : W.frozen? ⟨w.heap.size, 2, none⟩ = false := frozen_of_heap hnew
    have f3 : W.frozen? ⟨w.heap.size, 3, none⟩ = false := frozen_of_heap hnew
    clear hx e hr hd hat h
    generalize L.length = len at *
    obtain ⟨no, ob, env, slot, ⟨x0, x1, x2, x3⟩⟩ := d
    dsimp only [cpRow] at *
    rw [hW] at d4 d5 d6 d7 c0
    clear hnew f0 f1 f2 f3
    go_enter Tryz.func49, Tryz.ntmps49
    go_wp2_with fail
    rw [← hW]
    refine hf.mono ?_
    rintro e w1 ⟨rfl, hw1⟩
    rw [hw1, hW]
    clear hw1 w1
    go_wp2
    refine bodyPost_ret (v := .tuple #[.agg #[.int .i64 x0, .int .i64 x1, .int .i64 x2, .int .i64 x3], .bool true]) ?_ rfl ⟨by simp, ?_⟩
    · rw [results_cell_tmp rfl]
      go_simp
    · exact below_alloc _ _

def rhas (L : List Ce) (n K I q : Int) : Bool := L.any (fun d => d.env == n && hitB d.x K I q)
def RSanes (L : List Ce) : Prop := ∀ d ∈ L, Sane d.x
set_option maxHeartbeats 1000000 in
theorem rhas_at (M c : Nat) (sv : Value) (L : List Ce) (last n K I q : Int) (w : World) (h : RefAt M w c sv L last) (hl : L.length ≤ 1000) (hS : RSanes L) (hI : I64 I) :
    Calls Tryz.prog 109 #[.pointer (some ⟨c, 0, none⟩), .int .i64 n, .int .i64 K, .int .i64 I, .int .i64 q] w fun e w' => e = .returned (.bool (rhas L n K I q)) ∧ Below w.heap.size w w' := by
  obtain ⟨a, cap, hsv⟩ := h.form
  have HH : Hid _ := h
  have HS : Hid (RSanes L) := hS
  have HI : Hid (I64 I) := hI
  clear h hS hI
  subst hsv
  go_enter Tryz.func109, Tryz.ntmps109
  go_wp2
  go_loopw [11] (fun i wr => ∃ (k : Nat), k ≤ L.length ∧ i = .int .i64 k ∧ Hid (∀ (j : Nat) (x : Ce), j < k → L[j]? = some x → (x.env == n && hitB x.x K I q) = false) ∧ Below w.heap.size w wr) (fun i _ => L.length - (intOf i).toNat)
  case atStart => exact ⟨0, by omega, rfl, (show Hid _ from fun j x hj => absurd hj (Nat.not_lt_zero _)), Below.refl _ _⟩
  case round =>
    obtain ⟨k, hk, rfl, HN, hb⟩ := hrel
    have hR := HH.out.below hb
    have c0 := hR.c0
    by_cases hlt : k < L.length
    · obtain ⟨d, hd⟩ : ∃ d, L[k]? = some d := ⟨L[k], List.getElem?_eq_getElem hlt⟩
      obtain ⟨g, cap', e, ⟨⟨d0, d1, d2, d3⟩, d4, d5, d6, d7⟩⟩ := hR.at hd
      simp only [Value.slice.injEq] at e
      obtain ⟨rfl, _, rfl⟩ := e
      have HY : Hid ((d.env == n && hitB d.x K I q) = true → rhas L n K I q = true) := by
        intro hh
        unfold rhas
        rw [List.any_eq_true]
        exact ⟨d, List.mem_of_getElem? hd, hh⟩
      have HM : Hid ((d.env == n && hitB d.x K I q) = false → ∀ (j : Nat) (x : Ce), j < k + 1 → L[j]? = some x → (x.env == n && hitB x.x K I q) = false) := by
        intro hf j x hj hx
        by_cases e : j = k
        · rw [e, hd] at hx
          cases hx
          exact hf
        · exact HN.out j x (by omega) hx
      have hcall := rcovers_at d.x K I q wr (HS.out d (List.mem_of_getElem? hd)) HI.out
      clear hd HN hR
      obtain ⟨no, ob, env, slot, ⟨x0, x1, x2, x3⟩⟩ := d
      dsimp only [cpRow] at *
      generalize hitB ⟨x0, x1, x2, x3⟩ K I q = B at *
      have hik : (k : Int) < (L.length : Int) := by omega
      by_cases he : env = n
      · subst he
        cases B with
        | true =>
          have HF := HY.out (by simp)
          clear HY HM
          go_wp2_with (go_at_call 87; refine hcall.mono ?_; rintro e w1 ⟨rfl, hb1⟩)
          go_ret
          exact ⟨by rw [HF]; rfl, hb.trans (hb1.mono hb.size)⟩
        | false =>
          have HF : Hid _ := HM.out (by simp)
          clear HY HM
          go_wp2_with (go_at_call 87; refine hcall.mono ?_; rintro e w1 ⟨rfl, hb1⟩)
          go_roundw
          case rel => exact ⟨k + 1, by omega, by go_num, HF, hb.trans (hb1.mono hb.size)⟩
          case measure => simp [intOf]; omega
      · have HF : Hid _ := HM.out (by simp [he])
        have hee : (env == n) = false := by simp [he]
        clear HY HM hcall
        go_wp2
        go_roundw
        case rel => exact ⟨k + 1, by omega, by go_num, HF, hb⟩
        case measure => simp [intOf]; omega
    · obtain rfl : k = L.length := by omega
      have HF : Hid (rhas L n K I q = false) := by
        show rhas L n K I q = false
        unfold rhas
        rw [List.any_eq_false]
        intro x hx
        obtain ⟨j, hj⟩ := List.mem_iff_getElem?.1 hx
        rw [HN.out j x (List.getElem?_eq_some_iff.1 hj).1 hj]
        simp
      clear hR
      go_wp2
      go_ret
      exact ⟨by rw [HF.out]; rfl, hb⟩
end Ca
end Go.Proofs.YtfnafjddajgahaaGreat
