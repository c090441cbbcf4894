/- The contract of vm.Done at a call that is at hand. -/
import Derived.Test.YtedkijionpkmmaaVmK
namespace Go.Proofs.Ytedkijionpkmmaa
open Go.RowKit
set_option linter.unusedVariables false
set_option maxHeartbeats 1000000 in
theorem done_at (s : List UInt8) (hs : s.length ≤ 1000000000) (pc : Int) (hpc : -9223372036854775808 ≤ pc ∧ pc ≤ 9223372036854775807) (sv : Value) (st : List Int) (x : Int) (w : World) (h : URd w sv st.reverse) (hl : st.length ≤ 100000)
    (he : (one s pc).2 = 0) (ho : (one s pc).1.op = 23) (h0 : 0 ≤ argsOf (one s pc).1.arg) (h1 : argsOf (one s pc).1.arg ≤ st.length) :
    Calls Try.prog 17 #[tx s, .agg #[.int .i64 pc, sv], .int .u64 x] w fun e w' => ∃ u, e = .returned (.agg #[.int .i64 (pc + (one s pc).1.len), u]) ∧ w'.ownsRow w.heap.size 25 1 u (x :: st.drop (argsOf (one s pc).1.arg).toNat).length (uvs (x :: st.drop (argsOf (one s pc).1.arg).toNat).reverse) ∧ Below w.heap.size w w' := by
  obtain ⟨a, n, c, rfl, hn, hnc⟩ : ∃ a n c, sv = .slice a n c ∧ n = st.length ∧ n ≤ c := by
    rcases h with ⟨e, e2⟩ | ⟨g, o, c, e, hc, _⟩ | ⟨ad, c, e, e2⟩
    · have : st = [] := by simpa using e2
      exact ⟨none, 0, 0, e, by rw [this]; rfl, Nat.le_refl _⟩
    · exact ⟨_, _, c, e, by simp, hc⟩
    · have : st = [] := by simpa using e2
      exact ⟨some ad, 0, c, e, by rw [this]; rfl, Nat.zero_le _⟩
  have hca := callAt_yes s hs pc hpc a n c (by omega) he ho h0 (by omega)
  have hg := one_good hs he
  have hlen : 1 ≤ (one s pc).1.len ∧ (one s pc).1.len ≤ 9 := hg.2.2.2.1
  have hpb : 0 ≤ pc ∧ pc + (one s pc).1.len ≤ s.length := hg.2.2.2.2.1
  have hr := argsOf_low (one s pc).1.arg
  clear hg
  generalize one s pc = o at *
  obtain ⟨⟨op, arg, pos, len⟩, er⟩ := o
  dsimp only [insRow] at *
  obtain ⟨k, hk⟩ : ∃ k : Nat, argsOf arg = k := ⟨(argsOf arg).toNat, by omega⟩
  rw [hk] at hca h1 ⊢
  rw [Int.toNat_natCast]
  obtain ⟨hlen1, hlen2⟩ := hlen
  obtain ⟨hp1, hp2⟩ := hpb
  clear hk h0 hr he ho
  have hkn : k ≤ n := by omega
  have hnl : n ≤ 100000 := by omega
  have HN : Hid _ := hn
  clear hn h1
  obtain ⟨W, hW⟩ : ∃ W, W = (w.alloc (.cells #[.int .i64 pc, .slice a n c] 24)).alloc (.cells #[.int .i64 0, .slice none 0 0] 24) := ⟨_, rfl⟩
  have HB : Hid (Below w.heap.size w W) := by rw [hW]; exact two_allocs _ _ _
  have HV : Hid (W.heap[w.heap.size]? = some (.cells #[.int .i64 pc, .slice a n c] 24)) := by show _ = _; rw [hW, Below.heap_alloc _ _ _ (by simp), heap_alloc_new]
  have HR : Hid (W.heap[w.heap.size + 1]? = some (.cells #[.int .i64 0, .slice none 0 0] 24)) := by rw [hW]; exact heap_alloc2_new _ _ _
  have HH : Hid (URd w (.slice a n c) st.reverse) := h
  have hRlt : w.heap.size + 1 < W.heap.size := lt_of_heap HR.out
  clear h
  go_enter Try.func17, Try.ntmps17
  go_wp2_with fail
  rw [← hW]
  clear hW
  refine (hca W).mono ?_
  clear hca
  rintro e w1 ⟨rfl, hb1⟩
  have hb1s := hb1.size
  have HV1 : Hid _ := (hb1.block _ (lt_of_heap HV.out)).trans HV.out
  have HR1 : Hid _ := (hb1.block _ (lt_of_heap HR.out)).trans HR.out
  have v0 : w1.cell? ⟨w.heap.size, 0, none⟩ = some (.int .i64 pc) := by rw [cell_of_heap HV1.out]; rfl
  have v1 : w1.cell? ⟨w.heap.size, 1, none⟩ = some (.slice a n c) := by rw [cell_of_heap HV1.out]; rfl
  have f0 : w1.frozen? ⟨w.heap.size, 0, none⟩ = false := frozen_of_heap HV1.out
  have hvlt : w.heap.size < w1.heap.size := by omega
  have hsub : ((n : Int) - (k : Int)) = ((n - k : Nat) : Int) := by omega
  have HSUB : Hid _ := hsub
  clear hsub
  go_wp2_with fail
  rw [HSUB.out]
  obtain ⟨w2, hw2⟩ : ∃ w2, w2 = (w1.setCell ⟨w.heap.size, 0, none⟩ (.int .i64 (pc + len))).alloc (.cells #[.int .i64 op, .int .u64 arg, .int .i64 pos, .int .i64 len] 48) := ⟨_, rfl⟩
  rw [← hw2]
  have HB2 : Hid (Below w.heap.size w w2) := by
    rw [hw2]
    exact ((HB.out.trans (hb1.mono HB.out.size)).setCell (p := ⟨w.heap.size, 0, none⟩) (Nat.le_refl _) _).alloc (by simp [World.setCell]; omega) _
  have HR2 : Hid (w2.heap[w.heap.size + 1]? = some (.cells #[.int .i64 0, .slice none 0 0] 24)) := by
    show _ = _
    rw [hw2, Below.heap_alloc _ _ _ (by simp [World.setCell]; omega), Below.heap_setCell _ _ _ _ (by show w.heap.size + 1 ≠ w.heap.size; omega)]
    exact HR1.out
  clear hw2 v0 v1 f0
  refine (with_at (pc + len) a n c st.reverse (n - k) x w2 (URd.below HH.out HB2.out) (by simp; exact HN.out) (by omega) hnl hnc).mono ?_
  rintro e w3 ⟨u, rfl, ho3, hb3⟩
  obtain ⟨ua, uk, uc, rfl⟩ := own_slice ho3
  have HR3 : Hid (w3.heap[w.heap.size + 1]? = some (.cells #[.int .i64 0, .slice none 0 0] 24)) := (hb3.block _ (lt_of_heap HR2.out)).trans HR2.out
  have r0 : w3.cell? ⟨w.heap.size + 1, 0, none⟩ = some (.int .i64 0) := by rw [cell_of_heap HR3.out]; rfl
  have r1 : w3.cell? ⟨w.heap.size + 1, 1, none⟩ = some (.slice none 0 0) := by rw [cell_of_heap HR3.out]; rfl
  have g0 : w3.frozen? ⟨w.heap.size + 1, 0, none⟩ = false := frozen_of_heap HR3.out
  have g1 : w3.frozen? ⟨w.heap.size + 1, 1, none⟩ = false := frozen_of_heap HR3.out
  have HO : Hid _ := ho3
  have HB3 : Hid (Below w.heap.size w w3) := HB2.out.trans (hb3.mono HB2.out.size)
  have hb2s := HB2.out.size
  clear ho3 hb3
  go_wp2
  (try simp only [Exit.inBlock, Exit.then])
  have e2 : ∀ j, j ≠ w.heap.size + 1 → (put2 w3 (w.heap.size + 1) (.int .i64 (pc + len)) (.slice ua uk uc)).heap[j]? = w3.heap[j]? := fun j h2 => by
    unfold put2
    rw [Below.heap_setCell _ _ _ _ h2, Below.heap_setCell _ _ _ _ h2]
  refine bodyPost_ret (results_cell_row rfl _ _ (w.heap.size + 1) 24 _ (0, 0) _ rfl (set_row (set_row HR3.out 0 _) 1 _) Try.underlying24 rfl vmSize) rfl ⟨_, rfl, ?_, ?_⟩
  · have h5 := ownsRow_mono (ownsRow_at (w' := put2 w3 (w.heap.size + 1) (.int .i64 (pc + len)) (.slice ua uk uc)) HO.out (fun g hg => e2 g (fun e => own_apart HO.out HR3.out (by decide) (by rw [← e]; exact hg)))) hb2s
    have hn2 := HN.out
    have e6 : st.reverse.take (n - k) = (st.drop k).reverse := by
      rw [List.take_reverse, hn2]
      congr 2
      omega
    have e7 : n - k + 1 = (x :: st.drop k).length := by simp; omega
    rw [e6, e7] at h5
    rw [List.reverse_cons]
    exact h5
  · refine ⟨HB3.out.os, HB3.out.tape, HB3.out.output, ?_, fun j hj => ?_⟩
    · simpa [World.setCell] using HB3.out.size
    · exact (e2 j (by omega)).trans (HB3.out.block j hj)
end Go.Proofs.Ytedkijionpkmmaa
