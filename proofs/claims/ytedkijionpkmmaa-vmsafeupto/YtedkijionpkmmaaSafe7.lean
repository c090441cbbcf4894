/- januslaw07.VmSafe: a program that may be run faults at a division by 0, a load or a store alone, and has the depths that it should. -/
import Derived.Test.YtedkijionpkmmaaSafeM
import Derived.Test.YtedkijionpkmmaaAwake7
import Derived.BigQuiet
namespace Go.Proofs.Ytedkijionpkmmaa
open Go.RowKit
set_option linter.unusedVariables false

/-- A slice that can be read, in another block than this one. -/
def URdE (b : Nat) (w : World) (v : Value) (xs : List Int) : Prop := URd w v xs ∧ (xs ≠ [] → ∀ g, v.ownBlock = some g → g ≠ b)
theorem URdE.keep {b : Nat} {w w' : World} {v : Value} {xs : List Int} (h : URdE b w v xs) (hk : ∀ j, j < w.heap.size → j ≠ b → w'.heap[j]? = w.heap[j]?) : URdE b w' v xs := by
  refine ⟨?_, h.2⟩
  rcases h.1 with h1 | ⟨g, o, c, e, hc, hx⟩ | h1
  · exact Or.inl h1
  rotate_left
  · exact Or.inr (Or.inr h1)
  · refine Or.inr (Or.inl ⟨g, o, c, e, hc, fun j x hj => ?_⟩)
    have hne : xs ≠ [] := fun e => by rw [e] at hj; simp at hj
    have n1 := h.2 hne g (by rw [e]; rfl)
    have hc := hx j x hj
    rw [World.cell?_of_block (a := ⟨g, o + j, none⟩) (hk g (cell_lt hc) n1)]
    exact hc
theorem URdE.of_own {b M : Nat} {w : World} {v : Value} {xs : List Int} (h : w.ownsRow M 25 1 v xs.length (uvs xs)) (hM : b < M) : URdE b w v xs :=
  ⟨URd.of_own h, fun _ g hg => by have := (h.lt g hg).1; omega⟩
/-- What VmSafe has in hand: the machine in block w2.heap.size, its memory. -/
structure SK (w2 wr : World) (pc : Int) (sv : Value) (st : List Int) (mv : Value) (ms : List Int) : Prop where
  h9 : wr.heap[w2.heap.size]? = some (.cells #[.int .i64 pc, sv] 24)
  us : URdE w2.heap.size wr sv st.reverse
  um : URdE w2.heap.size wr mv ms
  bel : Below w2.heap.size w2 wr
theorem SK.below {w2 wr w' : World} {pc : Int} {sv : Value} {st : List Int} {mv : Value} {ms : List Int} (h : SK w2 wr pc sv st mv ms) (hb : Below wr.heap.size wr w') : SK w2 w' pc sv st mv ms :=
  ⟨(hb.block _ (lt_of_heap h.h9)).trans h.h9, h.us.keep (fun j hj _ => hb.block j hj), h.um.keep (fun j hj _ => hb.block j hj), h.bel.trans (hb.mono h.bel.size)⟩
theorem SK.next {w2 w' : World} {pc : Int} {sv : Value} (h9 : w'.heap[w2.heap.size]? = some (.cells #[.int .i64 pc, sv] 24)) (bel : Below w2.heap.size w2 w') {pc' : Int} {sv' mv' : Value} {st' ms' : List Int} (hs : URdE w2.heap.size w' sv' st'.reverse) (hm : URdE w2.heap.size w' mv' ms') :
    SK w2 (put2 w' w2.heap.size (.int .i64 pc') sv') pc' sv' st' mv' ms' := by
  have e2 : ∀ j, j ≠ w2.heap.size → (put2 w' w2.heap.size (.int .i64 pc') sv').heap[j]? = w'.heap[j]? := fun j hj => by
    unfold put2
    rw [Below.heap_setCell _ _ _ _ hj, Below.heap_setCell _ _ _ _ hj]
  refine ⟨set_row (set_row h9 0 _) 1 _, hs.keep (fun j _ hj => e2 j hj), hm.keep (fun j _ hj => e2 j hj), ?_⟩
  have hsz : (put2 w' w2.heap.size (.int .i64 pc') sv').heap.size = w'.heap.size := by simp [put2, World.setCell]
  exact ⟨bel.os, bel.tape, bel.output, by rw [hsz]; exact bel.size, fun j hj => (e2 j (by omega)).trans (bel.block j hj)⟩
/-- A memory of 128 words, all 0. -/
def zs128 : List Int := List.replicate 128 0
theorem zs128_len : zs128.length = 128 := List.length_replicate
theorem zs128_wds : Wds zs128 := fun x hx => by
  rw [List.eq_of_mem_replicate hx]
  unfold Wd
  omega
theorem zeros_row (n : Nat) : (uvs (List.replicate n 0)).toArray = Array.replicate (n * 1) (Value.int .u64 0) := by simp [uvs]
theorem make128 (w : World) : (Instr.makeSlice 22 (.int .i64 128) (.int .i64 128)).run Try.prog w = .ok (.slice (some ⟨w.heap.size, 0, none⟩) 128 128) (w.alloc (.cells (uvs zs128).toArray 25)) := by
  have h := run_make_flat (P := Try.prog) 22 25 (.int .u64 0) (.int .u64 0) 1 8 Try.underlying22 wordInfo rfl (by omega) .i64 .i64 128 (by omega) (by omega) w
  unfold zs128
  rw [zeros_row]
  exact h
theorem urd_zero (w : World) : URd (w.alloc (.cells (uvs zs128).toArray 25)) (.slice (some ⟨w.heap.size, 0, none⟩) 128 128) zs128 := by
  have := urd_new w zs128
  rwa [zs128_len] at this

set_option maxHeartbeats 1000000 in
theorem safe_bad (s : List UInt8) (hs : s.length ≤ 1100000) (hb : Bad s) (fuel : Int) (w : World) :
    Calls Try.prog 4 #[tx s, .int .i64 fuel] w fun e w' => e = .returned (.bool true) ∧ Below w.heap.size w w' := by
  have hdep := rdepths_all s hs
  have HB : Hid (Bad s) := hb
  clear hb
  set_option maxRecDepth 20000 in
  go_enter Try.func4, Try.ntmps4
  go_wp2_with fail
  refine (hdep w).mono ?_
  rintro e w1 ⟨hr, hb1⟩
  rcases hr with ⟨l, D, b0, cb, hv, _, _⟩ | ⟨_, rfl⟩
  · exact absurd hv (HB.out l D)
  · go_wp2_with fail
    refine (awake_at _).mono ?_
    rintro e w2 ⟨rfl, hb2⟩
    have HB2 : Hid (Below w.heap.size w w2) := hb1.trans (hb2.mono hb1.size)
    go_wp2
    go_ret
    exact ⟨rfl, HB2.out⟩
end Go.Proofs.Ytedkijionpkmmaa
