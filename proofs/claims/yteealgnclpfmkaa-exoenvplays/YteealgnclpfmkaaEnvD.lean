/- Package exoenv: Live, Vector; rows of ints. -/
import Derived.Test.YteealgnclpfmkaaEnvC
namespace Go.Proofs.Yteealgnclpfmkaa
open Go.RowKit
set_option linter.unusedVariables false

theorem ownsRow_at {w w' : World} {base : Nat} {e : TypeId} {size : Nat} {v : Value} {n : Nat} {xs : List Value} (h : w.ownsRow base e size v n xs) (hb : ∀ g, v.ownBlock = some g → w'.heap[g]? = w.heap[g]?) : w'.ownsRow base e size v n xs := by
  obtain ⟨h1, h2⟩ := h
  refine ⟨h1, ?_⟩
  rcases h2 with h2 | ⟨g, cap, cur, hv, hg, hh, r⟩
  · exact Or.inl h2
  · exact Or.inr ⟨g, cap, cur, hv, hg, (hb g (by rw [hv]; rfl)).trans hh, r⟩
theorem ownsRow_below {w w' : World} {base : Nat} {e : TypeId} {size : Nat} {v : Value} {n : Nat} {xs : List Value} (h : w.ownsRow base e size v n xs) (hb : Below w.heap.size w w') : w'.ownsRow base e size v n xs :=
  ownsRow_at h (fun g hg => hb.block g (h.lt g hg).2)
theorem below_grown {B : Nat} {w w' : World} {v : Value} (h : w.grownBy w' v.ownBlock) (hs : B ≤ w.heap.size) (hv : ∀ g, v.ownBlock = some g → B ≤ g) : Below B w w' :=
  ⟨h.os, h.tape, h.output, h.size, fun k hk => h.block k (by omega) (fun e => by have := hv k e.symm; omega)⟩
theorem ownsRow_low {w : World} {base : Nat} {e : TypeId} {size : Nat} {v : Value} {n : Nat} {xs : List Value} (h : w.ownsRow base e size v n xs) : ∀ g, v.ownBlock = some g → base ≤ g := by
  intro g hg
  rcases h.2 with ⟨e2, _⟩ | ⟨g', cap, cur, e2, hb, _⟩
  · rw [e2] at hg; simp [Value.ownBlock] at hg
  · rw [e2] at hg; simp [Value.ownBlock] at hg; omega

/-- A slice at a0 holds these ints. -/
def IRow (w : World) (a0 : Option Addr) (D : List Int) : Prop := ∀ (j : Nat) (x : Int), D[j]? = some x → ∃ gb off, a0 = some ⟨gb, off, none⟩ ∧ w.cell? ⟨gb, off + j, none⟩ = some (.int .i64 x)
theorem IRow.below {w w' : World} {a0 : Option Addr} {D : List Int} (h : IRow w a0 D) (hb : Below w.heap.size w w') : IRow w' a0 D := by
  intro j x hj
  obtain ⟨gb, off, ha, hc⟩ := h j x hj
  exact ⟨gb, off, ha, by rw [hb.cell (cell_lt hc)]; exact hc⟩
theorem own_irow {w : World} {base : Nat} {e : TypeId} {v : Value} {D : List Int} (h : w.ownsRow base e 1 v D.length (ivs D)) : ∃ a cap, v = .slice a D.length cap ∧ IRow w a D := by
  rcases h.2 with ⟨rfl, e2⟩ | ⟨g, cap, cur, rfl, _, hh, _, _, _, ht⟩
  · have : D = [] := List.eq_nil_of_length_eq_zero e2
    subst this
    exact ⟨none, 0, rfl, fun j x hx => by simp at hx⟩
  · refine ⟨_, cap, rfl, fun j x hx => ⟨g, 0, rfl, ?_⟩⟩
    have hj : j < D.length := (List.getElem?_eq_some_iff.1 hx).1
    have hq : (ivs D)[j]? = some (.int .i64 x) := by simp [ivs, hx]
    rw [Nat.zero_add, cell_of_heap hh]
    rw [← ht, Nat.mul_one, List.getElem?_take_of_lt hj] at hq
    simpa using hq

theorem ints_same (D : List Int) (a b : Option Addr) (ca cb : Nat) (w : World) (ha : IRow w a D) (hb : IRow w b D) (hl : D.length ≤ 1000000) :
    Calls Try.prog 23 #[.slice a D.length ca, .slice b D.length cb] w fun e w' => e = .returned (.bool true) ∧ Below w.heap.size w w' := by
  have HA : Hid _ := ha
  have HB : Hid _ := hb
  clear ha hb
  go_enter Try.func23, Try.ntmps23
  go_wp2
  go_loopw [5] (fun s wr => ∃ (k : Nat), k ≤ D.length ∧ s = .int .i64 k ∧ Below w.heap.size w wr) (fun s _ => D.length - (intOf s).toNat)
  case atStart => exact ⟨0, by omega, rfl, Below.refl _ _⟩
  case round =>
    obtain ⟨k, hk, rfl, hbw⟩ := hrel
    by_cases hlt : k < D.length
    · obtain ⟨x, hx⟩ : ∃ x, D[k]? = some x := ⟨D[k], List.getElem?_eq_getElem hlt⟩
      obtain ⟨ga, oa, rfl, a0⟩ := (IRow.below HA.out hbw) k x hx
      obtain ⟨gb, ob, rfl, b0⟩ := (IRow.below HB.out hbw) k x hx
      clear hx
      go_wp2_with fail
      go_region
      all_goals
        go_wp2
        go_roundw
        case rel => exact ⟨k + 1, by omega, by go_num, hbw.drew⟩
        case measure => simp [intOf]; omega
    · obtain rfl : k = D.length := by omega
      go_wp2
      go_ret
      exact ⟨rfl, hbw⟩

theorem live_nil (w : World) :
    Calls Try.prog 24 #[.pointer none] w fun e w' => e = .returned (.slice none 0 0) ∧ w' = w := by
  go_enter Try.func24, Try.ntmps24
  go_wp2
  go_loopw [3, 5] (fun s i wr => ∃ (k : Nat), k ≤ 12 ∧ i = .int .i64 k ∧ s = .slice none 0 0 ∧ wr = w) (fun _ i _ => 12 - (intOf i).toNat)
  case atStart => exact ⟨0, by omega, rfl, rfl, rfl⟩
  case round =>
    obtain ⟨k, hk, rfl, rfl, hwr⟩ := hrel
    subst hwr
    by_cases hlt : k < 12
    · have hh := is_nil k wr
      go_wp2_with (go_at_call 21; refine hh.mono ?_; rintro e w1 ⟨rfl, hw1⟩; rw [hw1]; clear hw1 w1)
      go_roundw
      case rel => exact ⟨k + 1, by omega, by go_num, rfl, by first | rfl | trivial⟩
      case measure => simp [intOf]; omega
    · obtain rfl : k = 12 := by omega
      go_wp2
      go_ret
      exact ⟨rfl, rfl⟩

set_option maxHeartbeats 2000000 in
theorem live_at (b g : Nat) (E : ES) (V : List Int) (w : World) (h : EnvAt w b g E V) :
    Calls Try.prog 24 #[.pointer (some ⟨b, 0, none⟩)] w fun e w' => ∃ v, e = .returned v ∧ w'.ownsRow w.heap.size 3 1 v (liveTo E 12).length (ivs (liveTo E 12)) ∧ Below w.heap.size w w' := by
  obtain ⟨i0, hi0, hzz⟩ := Option.map_eq_some_iff.1 intInfo
  simp only [Prod.mk.injEq] at hzz
  obtain ⟨hz0, hz1, hz2⟩ := hzz
  have HH : Hid _ := h
  clear h
  go_enter Try.func24, Try.ntmps24
  go_wp2
  go_loopw [3, 5] (fun s i wr => ∃ (k : Nat) (v : Value), k ≤ 12 ∧ i = .int .i64 k ∧ v = s ∧ wr.ownsRow w.heap.size 3 1 v (liveTo E k).length (ivs (liveTo E k)) ∧ Below w.heap.size w wr) (fun _ i _ => 12 - (intOf i).toNat)
  case atStart => exact ⟨0, _, by omega, rfl, rfl, World.ownsRow_nil _ _ _ _, Below.refl _ _⟩
  case round =>
    obtain ⟨k, v, hk, rfl, rfl, hown, hb⟩ := hrel
    by_cases hlt : k < 12
    · have ha := is_at b g E V k wr (HH.out.below hb)
      rw [isB_of hlt] at ha
      have hle := liveTo_len E k
      have h1 := hb.size
      cases hf : (E k).lives with
      | false =>
        rw [hf] at ha
        have HF : Hid _ := liveTo_no hf
        clear hf
        go_wp2_with (go_at_call 21; refine ha.mono ?_; rintro e w1 ⟨rfl, hw1⟩; rw [hw1]; clear hw1 w1)
        go_roundw
        case rel =>
          refine ⟨k + 1, _, by omega, by go_num, rfl, ?_, hb⟩
          rw [HF.out]
          exact hown
        case measure => simp [intOf]; omega
      | true =>
        rw [hf] at ha
        have HF : Hid _ := liveTo_yes hf
        clear hf
        go_wp2_with fail
        refine ha.mono ?_
        rintro e w1 ⟨rfl, hw1⟩
        rw [hw1]
        clear ha hw1 w1
        go_wp2_with (first
          | (at_builtin; refine wpList_append_lies _ rfl _ _ _ rfl w.heap.size 3 i0 _ 1 8 Try.underlying41 hi0 hz0 hz1 hz2 rfl (by omega) v _ _ rfl (hown.alloc _) ⟨wr.heap.size, 0, none⟩ 1 1 [.int .i64 k] rfl rfl (World.news_of_block (cs := #[.int .i64 k]) (t := 3) (fr := (0, 0)) (heap_alloc_new _ _)) (by simp [Value.oneCell']) (by omega) (by unfold maxLen; omega) (by omega) (by simp; omega) _ rfl ?_; intro gg cap w2 hown2 hgrow hat hlt2)
          | go_in)
        go_roundw
        case rel =>
          refine ⟨k + 1, _, by omega, by go_num, rfl, ?_, (hb.alloc (by omega) _).trans (below_grown hgrow (by simp; omega) (ownsRow_low hown))⟩
          rw [HF.out]
          simpa [ivs] using hown2
        case measure => simp [intOf]; omega
    · have : k = 12 := by omega
      subst this
      go_wp2
      go_ret
      exact ⟨_, rfl, hown, hb⟩

theorem vector_nil (w : World) :
    Calls Try.prog 25 #[.pointer none] w fun e w' => e = .returned (.slice none 0 0) ∧ w' = w := by
  go_enter Try.func25, Try.ntmps25
  go_wp2
  go_ret
  exact ⟨rfl, rfl⟩
/-- The first k copied. -/
def cpv (V : List Int) (k : Nat) : List Int := V.take k ++ List.replicate (V.length - k) 0
theorem cpv_zero (V : List Int) : cpv V 0 = List.replicate V.length 0 := by simp [cpv]
theorem cpv_all (V : List Int) : cpv V V.length = V := by simp [cpv]
theorem cpv_get (V : List Int) (k : Nat) (h : k < V.length) : (cpv V k)[k]? = some 0 := by
  unfold cpv
  rw [List.getElem?_append_right (by simp; omega), List.length_take, List.getElem?_replicate, if_pos (by omega)]
theorem cpv_set (V : List Int) (k : Nat) (x : Int) (h : V[k]? = some x) : (cpv V k).set k x = cpv V (k + 1) := by
  obtain ⟨hl, rfl⟩ := List.getElem?_eq_some_iff.1 h
  unfold cpv
  rw [List.set_append, if_neg (by simp; omega), List.length_take, show k - min k V.length = 0 by omega, List.take_succ_eq_append_getElem hl]
  obtain ⟨d, hd⟩ : ∃ d, V.length - k = d + 1 := ⟨V.length - k - 1, by omega⟩
  rw [hd, show V.length - (k + 1) = d by omega, List.replicate_succ, List.set_cons_zero, List.append_assoc]
  rfl
theorem vector_at (b g : Nat) (E : ES) (V : List Int) (w : World) (h : EnvAt w b g E V) :
    Calls Try.prog 25 #[.pointer (some ⟨b, 0, none⟩)] w fun e w' => e = .returned (.slice (some ⟨w.heap.size, 0, none⟩) V.length V.length) ∧ w'.heap[w.heap.size]? = some (.cells (irow V) 3) ∧ Below w.heap.size w w' := by
  have hne := ptr_eq b
  have hl := h.len
  have hmk := fun w => make_ints V.length (by omega) w
  obtain ⟨W, hW⟩ : ∃ W, W = w.alloc (.cells (irow (List.replicate V.length 0)) 3) := ⟨_, rfl⟩
  have HB : Hid (Below w.heap.size w W) := by rw [hW]; exact below_alloc _ _
  have HI : Hid (W.heap[w.heap.size]? = some (.cells (irow (cpv V 0)) 3)) := by show _ = _; rw [hW, cpv_zero]; exact heap_alloc_new _ _
  have HE : Hid _ := h
  have c0 := h.sl
  have c1 := EnvAt.sl (h.below HB.out)
  have c2 := c1
  rw [hW] at c1
  have HW : Hid _ := hW
  have hlb := h.ltb
  have hlg := h.ltg
  clear h hW
  go_enter Try.func25, Try.ntmps25
  go_wp2
  rw [← HW.out]
  clear c0 c1 c2 HW hmk
  go_loopw [18] (fun s wr => ∃ (k : Nat), k ≤ V.length ∧ s = .int .i64 k ∧ Hid (wr.heap[w.heap.size]? = some (.cells (irow (cpv V k)) 3)) ∧ Below w.heap.size w wr) (fun s _ => V.length - (intOf s).toNat)
  case atStart => exact ⟨0, by omega, rfl, HI, HB.out⟩
  case round =>
    clear HI HB
    obtain ⟨k, hk, rfl, HI, hb⟩ := hrel
    by_cases hlt : k < V.length
    · obtain ⟨x, hx⟩ : ∃ x, V[k]? = some x := ⟨V[k], List.getElem?_eq_getElem hlt⟩
      have hE := HE.out.below hb
      have c0 := hE.sl
      have c1 := hE.vcell hx
      have c2 := irow_cell HI.out (cpv_get V k hlt)
      have f2 : wr.frozen? ⟨w.heap.size, k, none⟩ = false := frozen_of_heap HI.out
      have hki : (k : Int) < (V.length : Int) := by omega
      have HX : Hid _ := hx
      have hkc : (cpv V k).length = V.length := by simp [cpv]; omega
      have HB : Hid _ := hb
      clear hE hx hb hkc
      go_wp2
      go_roundw
      case rel =>
        refine ⟨k + 1, by omega, by go_num, ?_, HB.out.trans ((Upd.setCell w.heap.size k wr _).below (Nat.le_refl _) HB.out.size)⟩
        show _ = _
        rw [setCell_eq_setRow wr w.heap.size _ _ _ _ _ HI.out, setRow_heap wr w.heap.size _ _ _ _ HI.out, irow_set, cpv_set V k x HX.out]
      case measure => simp [intOf]; omega
    · obtain rfl : k = V.length := by omega
      go_wp2
      go_ret
      refine ⟨rfl, ?_, hb⟩
      have := HI.out
      rw [cpv_all] at this
      exact this
end Go.Proofs.Yteealgnclpfmkaa
