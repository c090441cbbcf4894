/- put: into the lowest free slot. -/
import Derived.Test.YtfnafjddajgahaaGreatCapC
namespace Go.Proofs.YtfnafjddajgahaaGreat
open Go.RowKit
namespace Ca
set_option linter.unusedVariables false

abbrev hdRow (h : Hd) : Array Value := #[.int .i64 h.x.kind, .int .i64 h.x.id, .int .i64 h.x.len, .int .i64 h.x.rights, .int .i64 h.e, .int .i64 h.s]
/-- The lowest free slot of an environment; 64: there is none. -/
def freeT (T : Tab) (m : Nat) : Nat := (List.range 64).findIdx (fun s => !(T (m * 64 + s)).x.is)
theorem freeT_le (T : Tab) (m : Nat) : freeT T m ≤ 64 := by
  unfold freeT
  have := List.findIdx_le_length (xs := List.range 64) (p := fun s => !(T (m * 64 + s)).x.is)
  simpa using this
theorem freeT_taken (T : Tab) (m j : Nat) (h : j < freeT T m) : (T (m * 64 + j)).x.is = true := by
  have h64 := freeT_le T m
  have := List.not_of_lt_findIdx (xs := List.range 64) (p := fun s => !(T (m * 64 + s)).x.is) h
  simpa using this
theorem freeT_free (T : Tab) (m : Nat) (h : freeT T m < 64) : (T (m * 64 + freeT T m)).x.is = false := by
  have := List.findIdx_getElem (xs := List.range 64) (p := fun s => !(T (m * 64 + s)).x.is) (w := by simpa [freeT] using h)
  simpa [freeT] using this
theorem freeT_is {T : Tab} {m s : Nat} (hs : s < 64) (h0 : (T (m * 64 + s)).x.is = false) (h1 : ∀ j, j < s → (T (m * 64 + j)).x.is = true) : freeT T m = s := by
  rcases Nat.lt_trichotomy (freeT T m) s with h | h | h
  · have := freeT_free T m (by omega)
    rw [h1 _ h] at this
    cases this
  · exact h
  · have := freeT_taken T m s h
    rw [h0] at this
    cases this
theorem freeT_full {T : Tab} {m : Nat} (h1 : ∀ j, j < 64 → (T (m * 64 + j)).x.is = true) : freeT T m = 64 := by
  have h := freeT_le T m
  rcases Nat.lt_or_ge (freeT T m) 64 with h' | h'
  · have := freeT_free T m h'
    rw [h1 _ h'] at this
    cases this
  · omega
def putA (T : Tab) (m : Nat) : Int := if freeT T m < 64 then ((freeT T m + 1 : Nat) : Int) else 0
def putE (T : Tab) (m : Nat) : Int := if freeT T m < 64 then 0 else 105
def putT (T : Tab) (m : Nat) (H : Hd) : Tab := if freeT T m < 64 then T.set (m * 64 + freeT T m) H else T

/-- Six cells of a slot are laid anew. -/
theorem CapsAt.put6 {w : World} {b : Nat} {T : Tab} (h : CapsAt w b T) {j o : Nat} (hj : j < 768) (ho : o = j * 6) (H : Hd) :
    CapsAt ((((((w.setCell ⟨b, o, none⟩ (.int .i64 H.x.kind)).setCell ⟨b, o + 1, none⟩ (.int .i64 H.x.id)).setCell ⟨b, o + 2, none⟩ (.int .i64 H.x.len)).setCell ⟨b, o + 3, none⟩ (.int .i64 H.x.rights)).setCell ⟨b, o + 4, none⟩ (.int .i64 H.e)).setCell ⟨b, o + 5, none⟩ (.int .i64 H.s)) b (T.set j H) := by
  have key : ∀ (w : World) (T' : Tab) (k : Nat), k < 6 → CapsAt w b T' → CapsAt (w.setCell ⟨b, o + k, none⟩ (.int .i64 (H.get k))) b (T'.set j ⟨⟨if k = 0 then H.x.kind else (T' j).x.kind, if k = 1 then H.x.id else (T' j).x.id, if k = 2 then H.x.len else (T' j).x.len, if k = 3 then H.x.rights else (T' j).x.rights⟩, if k = 4 then H.e else (T' j).e, if k = 5 then H.s else (T' j).s⟩) := by
    intro w T' k hk h
    refine h.set (k := k) hj hk (by omega) _ _ ?_ ?_
    · obtain rfl | rfl | rfl | rfl | rfl | rfl : k = 0 ∨ k = 1 ∨ k = 2 ∨ k = 3 ∨ k = 4 ∨ k = 5 := by omega
      all_goals rfl
    · intro i hi hne
      obtain rfl | rfl | rfl | rfl | rfl | rfl : i = 0 ∨ i = 1 ∨ i = 2 ∨ i = 3 ∨ i = 4 ∨ i = 5 := by omega
      all_goals
        simp only [Hd.get]
        rw [if_neg (fun e => hne e.symm)]
  have h5 := key _ _ 5 (by omega) (key _ _ 4 (by omega) (key _ _ 3 (by omega) (key _ _ 2 (by omega) (key _ _ 1 (by omega) (key _ _ 0 (by omega) h)))))
  refine cast (congrArg (CapsAt _ b) ?_) h5
  funext i
  by_cases hi : i = j
  · subst hi
    simp [Tab.set]
  · simp [Tab.set, hi]
theorem _root_.Go.Proofs.YtfnafjddajgahaaGreat.Upd.six (b o : Nat) (w : World) (v0 v1 v2 v3 v4 v5 : Value) : Upd b w ((((((w.setCell ⟨b, o, none⟩ v0).setCell ⟨b, o + 1, none⟩ v1).setCell ⟨b, o + 2, none⟩ v2).setCell ⟨b, o + 3, none⟩ v3).setCell ⟨b, o + 4, none⟩ v4).setCell ⟨b, o + 5, none⟩ v5) :=
  (((((Upd.setCell b _ w v0).trans (Upd.setCell b _ _ v1)).trans (Upd.setCell b _ _ v2)).trans (Upd.setCell b _ _ v3)).trans (Upd.setCell b _ _ v4)).trans (Upd.setCell b _ _ v5)
theorem CapsAt.drew {w : World} {b : Nat} {T : Tab} (h : CapsAt w b T) : CapsAt w.drew b T := h.keep rfl
theorem CapsAt.cells {w : World} {b : Nat} {T : Tab} (h : CapsAt w b T) {m s : Nat} (hm : m < 12) (hs : s < 64) {H : Hd} (hH : T (m * 64 + s) = H) :
    (w.cell? ⟨b, m * 384 + s * 6, none⟩ = some (.int .i64 H.x.kind) ∧ w.cell? ⟨b, m * 384 + s * 6 + 1, none⟩ = some (.int .i64 H.x.id) ∧ w.cell? ⟨b, m * 384 + s * 6 + 2, none⟩ = some (.int .i64 H.x.len) ∧ w.cell? ⟨b, m * 384 + s * 6 + 3, none⟩ = some (.int .i64 H.x.rights)) ∧
    w.cell? ⟨b, m * 384 + s * 6 + 4, none⟩ = some (.int .i64 H.e) ∧ w.cell? ⟨b, m * 384 + s * 6 + 5, none⟩ = some (.int .i64 H.s) := by
  subst hH
  exact ⟨⟨h.cell (k := 0) (by omega) (by omega) (by omega), h.cell (k := 1) (by omega) (by omega) (by omega), h.cell (k := 2) (by omega) (by omega) (by omega), h.cell (k := 3) (by omega) (by omega) (by omega)⟩, h.cell (k := 4) (by omega) (by omega) (by omega), h.cell (k := 5) (by omega) (by omega) (by omega)⟩

set_option maxRecDepth 100000 in
set_option maxHeartbeats 2000000 in
theorem put_at (b : Nat) (T : Tab) (m : Nat) (H : Hd) (w : World) (h : CapsAt w b T) (hm : m < 12) :
    Calls Tryz.prog 92 #[.pointer (some ⟨b, 0, none⟩), .int .i64 m, .agg (hdRow H)] w fun e w' => e = .returned (.tuple #[.int .i64 (putA T m), .int .i64 (putE T m)]) ∧ CapsAt w' b (putT T m H) ∧ Upd b w w' := by
  obtain ⟨W, hW⟩ : ∃ W, W = w.alloc (.cells (hdRow H) 117) := ⟨_, rfl⟩
  have HB : Hid (Below w.heap.size w W) := by rw [hW]; exact below_alloc _ _
  have HC : Hid (CapsAt W b T) := h.below HB.out
  have hI : W.heap[w.heap.size]? = some (.cells (hdRow H) 117) := by rw [hW]; exact heap_alloc_new _ _
  have d0 : W.cell? ⟨w.heap.size, 0, none⟩ = some (.int .i64 H.x.kind) := by rw [cell_of_heap hI]; rfl
  have d1 : W.cell? ⟨w.heap.size, 1, none⟩ = some (.int .i64 H.x.id) := by rw [cell_of_heap hI]; rfl
  have d2 : W.cell? ⟨w.heap.size, 2, none⟩ = some (.int .i64 H.x.len) := by rw [cell_of_heap hI]; rfl
  have d3 : W.cell? ⟨w.heap.size, 3, none⟩ = some (.int .i64 H.x.rights) := by rw [cell_of_heap hI]; rfl
  have d4 : W.cell? ⟨w.heap.size, 4, none⟩ = some (.int .i64 H.e) := by rw [cell_of_heap hI]; rfl
  have d5 : W.cell? ⟨w.heap.size, 5, none⟩ = some (.int .i64 H.s) := by rw [cell_of_heap hI]; rfl
  have hlt := h.lt
  clear h hI
  obtain ⟨⟨k, i, l, r⟩, e, q⟩ := H
  dsimp only [hdRow] at *
  go_enter Tryz.func92, Tryz.ntmps92
  go_wp2
  rw [← hW]
  clear hW
  go_loopw [9] (fun s wr => ∃ (k : Nat), k ≤ 64 ∧ s = .int .i64 k ∧ Hid (∀ j, j < k → (T (m * 64 + j)).x.is = true) ∧ wr = W) (fun s _ => 64 - (intOf s).toNat)
  case atStart => exact ⟨0, by omega, rfl, (show Hid _ from fun j hj => absurd hj (Nat.not_lt_zero _)), rfl⟩
  case round =>
    obtain ⟨s, hk, rfl, HN, hwr⟩ := hrel
    subst hwr
    by_cases hs : s < 64
    · obtain ⟨G, hG⟩ : ∃ G, T (m * 64 + s) = G := ⟨_, rfl⟩
      obtain ⟨⟨c0, c1, c2, c3⟩, c4, c5⟩ := HC.out.cells hm hs hG
      have HG : Hid _ := hG
      clear hG
      obtain ⟨⟨x0, x1, x2, x3⟩, xe, xq⟩ := G
      dsimp only at *
      have heq := cap_eql x0 x1 x2 x3
      cases hq : Cp.is ⟨x0, x1, x2, x3⟩ with
      | true =>
        rw [hq] at heq
        have HM : Hid (∀ j, j < s + 1 → (T (m * 64 + j)).x.is = true) := by
          intro j hj
          by_cases e : j = s
          · rw [e, HG.out]; exact hq
          · exact HN.out j (by omega)
        clear hq
        go_wp2
        go_roundw
        case rel => exact ⟨s + 1, by omega, by go_num, HM, by first | rfl | trivial⟩
        case measure => simp [intOf]; omega
      | false =>
        rw [hq] at heq
        have HF : Hid (freeT T m = s) := freeT_is hs (by rw [HG.out]; exact hq) HN.out
        have f0 := HC.out.free (m * 384 + s * 6)
        have f1 := HC.out.free (m * 384 + s * 6 + 1)
        have f2 := HC.out.free (m * 384 + s * 6 + 2)
        have f3 := HC.out.free (m * 384 + s * 6 + 3)
        have f4 := HC.out.free (m * 384 + s * 6 + 4)
        have f5 := HC.out.free (m * 384 + s * 6 + 5)
        clear hq HN
        go_wp2
        go_region
        all_goals
          go_wp2
          go_ret2
          refine ⟨?_, ?_, ?_⟩
          · simp only [putA, putE, HF.out, if_pos hs]
            rfl
          · unfold putT
            rw [HF.out, if_pos hs]
            have hp := (HC.out.put6 (j := m * 64 + s) (o := m * 384 + s * 6) (by omega) (by omega) ⟨⟨k, i, l, r⟩, e, q⟩).drew
            dsimp only at hp
            exact hp
          · have hu := ((Upd.of_below HB.out).trans (Upd.six b (m * 384 + s * 6) wr (.int .i64 k) (.int .i64 i) (.int .i64 l) (.int .i64 r) (.int .i64 e) (.int .i64 q))).trans (Upd.drew _ _)
            exact hu
    · obtain rfl : s = 64 := by omega
      have HF : Hid (freeT T m = 64) := freeT_full HN.out
      go_wp2
      go_ret2
      refine ⟨?_, ?_, Upd.of_below HB.out⟩
      · simp [putA, putE, HF.out]
      · unfold putT
        rw [HF.out, if_neg (by omega)]
        exact HC.out
end Ca
end Go.Proofs.YtfnafjddajgahaaGreat
