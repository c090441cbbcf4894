/- The reference of package caps: Get, Has. -/
import Derived.Test.YtfnafjddajgahaaRefA8
namespace Go.Proofs.Ytfnafjddajgahaa
open Go.RowKit
namespace Ca
set_option linter.unusedVariables false

theorem rfindI_range (L : List Ce) (n s : Int) : rfindI L n s = -1 ∨ ∃ (k : Nat) (d : Ce), rfindI L n s = (k : Int) ∧ L[k]? = some d ∧ atB n s d = true := by
  unfold rfindI
  split
  · rename_i h
    refine Or.inr ⟨rfind L n s, L[rfind L n s], rfl, List.getElem?_eq_getElem h, ?_⟩
    exact List.findIdx_getElem (w := h)
  · exact Or.inl rfl
/-- What the reference's slot has. -/
def rgetX (L : List Ce) (n s : Int) : Cp := match L[rfind L n s]? with
  | none => Cp.no
  | some d => d.x
theorem rget_at (M c : Nat) (sv : Value) (L : List Ce) (last n s : Int) (w : World) (h : RefAt M w c sv L last) (hl : L.length ≤ 1000) :
    Calls Try.prog 112 #[.pointer (some ⟨c, 0, none⟩), .int .i64 n, .int .i64 s] w fun e w' => e = .returned (.tuple #[.agg (cpRow (rgetX L n s)), .bool (decide (0 ≤ rfindI L n s))]) ∧ Below w.heap.size w w' := by
  obtain ⟨W, hW⟩ : ∃ W, W = w.alloc (.cells #[.int .i64 0, .int .i64 0, .int .i64 0, .int .i64 0] 84) := ⟨_, rfl⟩
  have hbW : Below w.heap.size w W := by rw [hW]; exact below_alloc _ _
  have hr := h.below hbW
  have hf := find_at M c sv L last n s W hr hl
  have hlt := h.lt
  have hnew : W.heap[w.heap.size]? = some (.cells #[.int .i64 0, .int .i64 0, .int .i64 0, .int .i64 0] 84) := by rw [hW]; exact heap_alloc_new _ _
  have HB : Hid _ := hbW
  rcases rfindI_range L n s with e | ⟨k, d, e, hd, hat⟩
  · have hx : rgetX L n s = Cp.no := by
      have hlen : rfind L n s = L.length := by
        unfold rfindI at e
        split at e
        · omega
        · rename_i h1
          have := List.findIdx_le_length (xs := L) (p := atB n s)
          unfold rfind at h1 ⊢
          omega
      unfold rgetX
      rw [hlen, List.getElem?_eq_none (Nat.le_refl _)]
    rw [hx, e]
    rw [e] at hf
    clear hx e hr hnew h
    go_enter Try.func112, Try.ntmps112
    go_wp2_with fail
    rw [← hW]
    refine hf.mono ?_
    rintro e w1 ⟨rfl, hw1⟩
    rw [hw1, hW]
    clear hw1 w1
    go_wp2
    refine bodyPost_ret (v := .tuple #[.agg (cpRow Cp.no), .bool false]) ?_ rfl ⟨rfl, ?_⟩
    · rw [results_cell_tmp rfl]
      go_simp
    · exact below_alloc _ _
  · have hx : rgetX L n s = d.x := by
      have hkf : rfind L n s = k := by
        unfold rfindI at e
        split at e
        · omega
        · omega
      unfold rgetX
      rw [hkf, hd]
    rw [hx, e]
    rw [e] at hf
    obtain ⟨g, cap, hsv, ⟨_, d4, d5, d6, d7⟩⟩ := hr.at hd
    have c0 := hr.c0
    have hkl : k < L.length := (List.getElem?_eq_some_iff.1 hd).1
    have hki : (k : Int) < (L.length : Int) := by omega
    subst hsv
    have f0 : W.frozen? ⟨w.heap.size, 0, none⟩ = false := frozen_of_heap hnew
    have f1 : W.frozen? ⟨w.heap.size, 1, none⟩ = false := frozen_of_heap hnew
    have f2 : W.frozen? ⟨w.heap.size, 2, none⟩ = false := frozen_of_heap hnew
    have f3 : W.frozen? ⟨w.heap.size, 3, none⟩ = false := frozen_of_heap hnew
    clear hx e hr hd hat h
    generalize L.length = len at *
    obtain ⟨no, ob, env, slot, ⟨x0, x1, x2, x3⟩⟩ := d
    dsimp only [cpRow] at *
    rw [hW] at d4 d5 d6 d7 c0
    clear hnew f0 f1 f2 f3
    go_enter Try.func112, Try.ntmps112
    go_wp2_with fail
    rw [← hW]
    refine hf.mono ?_
    rintro e w1 ⟨rfl, hw1⟩
    rw [hw1, hW]
    clear hw1 w1
    go_wp2
    refine bodyPost_ret (v := .tuple #[.agg #[.int .i64 x0, .int .i64 x1, .int .i64 x2, .int .i64 x3], .bool true]) ?_ rfl ⟨by simp, ?_⟩
    · rw [results_cell_tmp rfl]
      go_simp
    · exact below_alloc _ _

def rhas (L : List Ce) (n K I q : Int) : Bool := L.any (fun d => d.env == n && hitB d.x K I q)
def RSanes (L : List Ce) : Prop := ∀ d ∈ L, Sane d.x
end Ca
end Go.Proofs.Ytfnafjddajgahaa
