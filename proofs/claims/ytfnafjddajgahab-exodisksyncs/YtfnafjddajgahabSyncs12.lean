/- Proved: januslaw12.ExodiskSyncs answers true for every list of deeds (behind a Sync the disk has what was put, and nothing is changed any more), at the commit of this claim; no condition beyond the row's own. -/
import Derived.Test.YtfnafjddajgahabXdN
import Derived.Test.YtfnafjddajgahabCleanM12
import Derived.ProofKit
import Derived.OpenShut
import Derived.ChangeOld
import Derived.Below
import Derived.Deep.Slices
namespace Go.Proofs.Ytfnafjddajgahab
open Go.ChangeShapes Go.WideShapes Go.ChangeAt Go.RowKit Go.Lib Ca
set_option linter.unusedVariables false

/-- Block wb holds the first k rows of words that are wanted. -/
def WantAt (w : World) (wb : Nat) (wt : Nat → List Int) (k : Nat) : Prop :=
  ∃ row : Array Value, w.heap[wb]? = some (.cells row 29) ∧ row.size = 6 ∧ ∀ i, i < k → ∃ v, row[i]? = some v ∧ URow 0 w v (wt i) ∧ (wt i).length = 32
theorem WantAt.lt {w : World} {wb k : Nat} {wt : Nat → List Int} (h : WantAt w wb wt k) : wb < w.heap.size := by
  obtain ⟨row, hr, _⟩ := h
  exact lt_of_heap hr
theorem WantAt.keepT {P : Nat → Prop} {w w' : World} {wb k : Nat} {wt : Nat → List Int} (h : WantAt w wb wt k) (hu : UpdP P w w') (hb : ¬ P wb) (hp : ∀ k, P k → ∀ cur fr, w.heap[k]? ≠ some (.cells cur 30 fr)) : WantAt w' wb wt k := by
  obtain ⟨row, hr, hs, hc⟩ := h
  exact ⟨row, (hu.block _ (lt_of_heap hr) hb).trans hr, hs, fun i hi => by obtain ⟨v, h1, h2, h3⟩ := hc i hi; exact ⟨v, h1, h2.keepT hu hp, h3⟩⟩
theorem WantAt.below {w w' : World} {wb k : Nat} {wt : Nat → List Int} (h : WantAt w wb wt k) (hb : Below w.heap.size w w') : WantAt w' wb wt k :=
  h.keepT (UpdP.of_below (P := fun _ => False) hb) (fun e => e) (fun _ e => e.elim)
theorem WantAt.foot {w : World} {wb k : Nat} {wt : Nat → List Int} {K : Nat} {Y : Yd} {n m : Nat} {vs : List Int} {l : Lines} {T : Tab} (h : WantAt w wb wt k) (hK : KAt w K Y n m vs l T) : ¬ XFoot Y wb := by
  obtain ⟨row, hr, _⟩ := h
  obtain ⟨gt, pt, hd, _⟩ := hK.disk
  obtain ⟨row1, hr1, _⟩ := hK.lines
  obtain ⟨row2, hr2, _⟩ := hK.caps.head
  rintro (e | e | e | e)
  · exact apart hr hr1 (by decide) e
  · exact apart hr hd.head (by decide) e
  · exact apart hr hd.row (by decide) e
  · exact apart hr hr2 (by decide) e
theorem WantAt.set {w : World} {wb k : Nat} {wt : Nat → List Int} (h : WantAt w wb wt k) (j : Nat) (hj : j < 6) (v : Value) (ws : List Int) (hv : URow 0 w v ws) (hl : ws.length = 32) : WantAt (w.setCell ⟨wb, j, none⟩ v) wb (fun i => if i = j then ws else wt i) k ∧ (j = k → WantAt (w.setCell ⟨wb, j, none⟩ v) wb (fun i => if i = j then ws else wt i) (k + 1)) := by
  obtain ⟨row, hr, hs, hc⟩ := h
  have hu : UpdP (fun k => k = wb) w (w.setCell ⟨wb, j, none⟩ v) := (Upd.setCell _ _ _ _).p _ rfl
  have hp : ∀ k, k = wb → ∀ cur fr, w.heap[k]? ≠ some (.cells cur 30 fr) := fun k e cur fr hk => apart hk hr (by decide) e
  have h1 : (w.setCell ⟨wb, j, none⟩ v).heap[wb]? = some (.cells (row.setIfInBounds j v) 29) := by rw [setCell_eq_setRow w wb _ _ _ _ _ hr, setRow_heap w wb _ _ _ _ hr]
  have hrow : ∀ i, (i < k ∨ i = j) → ∃ u, (row.setIfInBounds j v)[i]? = some u ∧ URow 0 (w.setCell ⟨wb, j, none⟩ v) u (if i = j then ws else wt i) ∧ (if i = j then ws else wt i).length = 32 := by
    intro i hi
    by_cases e : i = j
    · subst e
      rw [if_pos rfl]
      exact ⟨v, by rw [Array.getElem?_setIfInBounds, if_pos rfl, if_pos (by omega)], hv.keepT hu hp, hl⟩
    · rw [if_neg e]
      obtain ⟨u, g1, g2, g3⟩ := hc i (by omega)
      exact ⟨u, by rw [Array.getElem?_setIfInBounds, if_neg (by omega)]; exact g1, g2.keepT hu hp, g3⟩
  exact ⟨⟨_, h1, by simp [hs], fun i hi => hrow i (Or.inl hi)⟩, fun e => ⟨_, h1, by simp [hs], fun i hi => hrow i (by omega)⟩⟩
theorem WantAt.same {w : World} {wb k : Nat} {wt wt' : Nat → List Int} (h : WantAt w wb wt k) (he : ∀ i, i < k → wt i = wt' i) : WantAt w wb wt' k := by
  obtain ⟨row, hr, hs, hc⟩ := h
  exact ⟨row, hr, hs, fun i hi => by rw [← he i hi]; exact hc i hi⟩
theorem WantAt.cell {w : World} {wb k : Nat} {wt : Nat → List Int} (h : WantAt w wb wt k) {i : Nat} (hi : i < k) : ∃ v, w.cell? ⟨wb, i, none⟩ = some v ∧ URow 0 w v (wt i) ∧ (wt i).length = 32 := by
  obtain ⟨row, hr, hs, hc⟩ := h
  obtain ⟨v, h1, h2⟩ := hc i hi
  exact ⟨v, by rw [cell_of_heap hr]; exact h1, h2⟩
theorem WantAt.some {w : World} {wb k : Nat} {wt : Nat → List Int} (h : WantAt w wb wt k) {i : Nat} (hi : i < 6) : (∃ v, w.cell? ⟨wb, i, none⟩ = some v) ∧ w.frozen? ⟨wb, i, none⟩ = false := by
  obtain ⟨row, hr, hs, hc⟩ := h
  exact ⟨⟨_, by rw [cell_of_heap hr]; exact Array.getElem?_eq_getElem (by omega)⟩, frozen_of_heap hr⟩
abbrev T6 : Tab := Tf 1 0 6
theorem sy_may (f : Int) : mayX T6 1 1 f 2 = (decide (0 ≤ f) && decide (f < 6)) := by
  have h1 : getT T6 1 1 = ⟨2, 0, 6, 7⟩ := by kernel_rfl
  have h2 : hasR T6 1 1 2 = true := by kernel_rfl
  unfold mayX
  rw [h1, h2]
  simp
theorem sy_yes (f : Nat) (hf : f < 6) (l : Lines) (ws : List Int) (h : ws.length = 32) : putRr T6 1 1 f ws.length = 0 ∧ putLl T6 l 1 1 f ws = putL l f ws := by
  have hm : mayX T6 1 1 f 2 = true := by rw [sy_may]; simp; omega
  unfold putRr putLl
  rw [hm, h]
  exact ⟨rfl, rfl⟩
theorem sy_no (f : Int) (hf : ¬ (0 ≤ f ∧ f < 6)) (l : Lines) (ws : List Int) (k : Nat) : putRr T6 1 1 f k = 104 ∧ putLl T6 l 1 1 f ws = l := by
  have hm : mayX T6 1 1 f 2 = false := by rw [sy_may]; simp; omega
  unfold putRr putLl
  rw [hm]
  exact ⟨rfl, rfl⟩
theorem make_words (w : World) : (Instr.makeSlice 29 (.int .i64 32) (.int .i64 32)).run Try.prog w = .ok (.slice (some ⟨w.heap.size, 0, none⟩) 32 32) (w.alloc (.cells (zrow 32) 30)) :=
  run_make_flat 29 30 (.int .u64 0) (.int .u64 0) 1 8 Try.underlying29 Di.wordInfo rfl (by omega) .i64 .i64 32 (by omega) (by omega) w
def six : Array Value := Array.replicate 6 (.slice none 0 0)
theorem rowInfo : (Try.prog.info? 29).map (fun i => (i.zero, i.size, i.bytes)) = some (some (.slice none 0 0), 1, 24) := by kernel_rfl
theorem make_six (w : World) : (Instr.makeSlice 28 (.int .i64 6) (.int .i64 6)).run Try.prog w = .ok (.slice (some ⟨w.heap.size, 0, none⟩) 6 6) (w.alloc (.cells six 29)) :=
  run_make_flat 28 29 (.slice none 0 0) (.slice none 0 0) 1 24 Try.underlying28 rowInfo rfl (by omega) .i64 .i64 6 (by omega) (by omega) w
theorem six_want (w : World) : WantAt (w.alloc (.cells six 29)) w.heap.size (fun _ => List.replicate 32 0) 0 := ⟨_, heap_alloc_new _ _, by simp [six], fun i hi => by omega⟩
theorem made_row (w : World) : URow 0 (w.alloc (.cells (zrow 32) 30)) (.slice (some ⟨w.heap.size, 0, none⟩) 32 32) (List.replicate 32 0) := by
  refine ⟨_, 32, by simp, by simp, by unfold maxLen; omega, fun _ => ⟨w.heap.size, zrow 32, rfl, Nat.zero_le _, heap_alloc_new _ _, fun j x hx => ?_⟩⟩
  rw [zrow_urow]
  simp only [urow, List.getElem?_toArray, List.getElem?_map, hx]
  rfl
/-- What is so at each round: the cache and the disk tell what is wanted. -/
structure SI (wr w : World) (K : Nat) (Y : Yd) (wb m : Nat) (vs : List Int) (l : Lines) (wt : Nat → List Int) : Prop where
  ker : KAt wr K Y 6 m vs l T6
  want : WantAt wr wb wt 6
  tidy : Tidy 6 l vs
  eq : ∀ i, i < 6 → lookW l vs i = wt i
  old : Below w.heap.size w wr
theorem SI.below {wr wr' w : World} {K : Nat} {Y : Yd} {wb m : Nat} {vs : List Int} {l : Lines} {wt : Nat → List Int} (h : SI wr w K Y wb m vs l wt) (hb : Below wr.heap.size wr wr') : SI wr' w K Y wb m vs l wt :=
  ⟨h.ker.below hb, h.want.below hb, h.tidy, h.eq, h.old.trans (hb.mono h.old.size)⟩
theorem SI.sync {wr wr' w : World} {K : Nat} {Y : Yd} {wb m : Nat} {vs : List Int} {l : Lines} {wt : Nat → List Int} (h : SI wr w K Y wb m vs l wt) (hF : ∀ b, XFoot Y b → w.heap.size ≤ b) (hK : KAt wr' K Y 6 (m + 6) (syncV l vs 6) (syncL l 6) T6) (hu : UpdP (XFoot Y) wr wr') : SI wr' w K Y wb (m + 6) (syncV l vs 6) (syncL l 6) wt :=
  ⟨hK, h.want.keepT hu (h.want.foot h.ker) h.ker.noW, h.tidy.sync h.ker.linv h.ker.len, fun i hi => by rw [look_sync h.ker.linv h.ker.len i hi]; exact h.eq i hi, feet_below h.old hF hu⟩

theorem deNo {w : World} {K : Nat} {Y : Yd} {n m : Nat} {vs : List Int} {l : Lines} {T : Tab} {D : Nat} {d : De} (h : KAt w K Y n m vs l T) (hx : w.heap[D]? = some (.cells (deRow d) 32)) : ¬ XFoot Y D := by
  obtain ⟨gt, pt, hd, _⟩ := h.disk
  obtain ⟨row1, hr1, _⟩ := h.lines
  obtain ⟨row2, hr2, _⟩ := h.caps.head
  rintro (e | e | e | e)
  · exact apart hx hr1 (by decide) e
  · exact apart hx hd.head (by decide) e
  · exact apart hx hd.row (by decide) e
  · exact apart hx hr2 (by decide) e
set_option maxRecDepth 100000 in
set_option maxHeartbeats 8000000 in
theorem syncs_walk (a0' : Option Addr) (len cap : Nat) (w : World) (hlen : len ≤ 9223372036854775807) (hdeeds : Hid (DesAt w a0' len)) :
    Calls Try.prog 3 #[.slice a0' len cap] w fun e w' => e = .returned (.bool true) ∧ Below w.heap.size w w' := by
  have hmk := make_words
  go_enter Try.func3, Try.ntmps3
  go_wp2_with fail
  refine (xnew_at 6 w (by decide) (by decide)).mono ?_
  rintro x w1 ⟨K0, Y, rfl, hK0, hb, hKw, hft⟩
  have hK1 : KAt w1 K0 Y 6 0 (V0 6) L0 T0 := hK0
  have HB1 : Hid _ := hb
  have HF : Hid _ := hft
  clear hK0 hb hft hKw
  have h1 := xalloc_at hK1 1 0 6 ⟨by decide, by decide⟩ ⟨by decide, by decide⟩
  obtain ⟨e1, e2, e3⟩ := first_alloc 6 1 (by decide) (by decide) 0 6 (by decide) (by decide) (by decide)
  replace e1 : xallocA T0 6 1 0 6 = 1 := e1
  replace e2 : xallocR T0 6 1 0 6 = 0 := e2
  replace e3 : xallocT T0 6 1 0 6 = T6 := e3
  rw [e1, e2, e3] at h1
  clear e1 e2 e3 hK1
  go_wp2_with fail
  refine h1.mono ?_
  rintro x w2 ⟨rfl, hK2, hu2⟩
  have HB2 : Hid _ := feet_below HB1.out HF.out hu2
  have HBs2 : Hid _ := HB2.out.size
  have HK2 : Hid _ := hK2
  clear HB1 hu2 hK2 h1
  obtain ⟨W, hW⟩ : ∃ W, W = w2.alloc (.cells six 29) := ⟨_, rfl⟩
  have hbW : Below w2.heap.size w2 W := by rw [hW]; exact below_alloc _ _
  have HW0 : Hid (WantAt W w2.heap.size (fun _ => List.replicate 32 0) 0) := by rw [hW]; exact six_want w2
  have HKW : Hid _ := HK2.out.below hbW
  have HBW : Hid (Below w.heap.size w W) := HB2.out.trans (hbW.mono HB2.out.size)
  have hm6 := make_six
  clear hbW HK2 HB2
  generalize hsix : six = sx at *
  clear hsix
  go_wp2
  rw [← hW]
  clear hW
  have HWB : Hid (w.heap.size ≤ w2.heap.size) := HBs2.out
  generalize w2.heap.size = wb at *
  go_loopw [7] (fun s wr => ∃ (k : Nat), k ≤ 6 ∧ s = .int .i64 k ∧ KAt wr K0 Y 6 0 (V0 6) L0 T6 ∧ WantAt wr wb (fun _ => List.replicate 32 0) k ∧ Below w.heap.size w wr) (fun s _ => 6 - (intOf s).toNat)
  case atStart => exact ⟨0, by omega, rfl, HKW.out, HW0.out, HBW.out⟩
  case round =>
    clear HKW HW0 HBW
    obtain ⟨k, hk, rfl, hK, hWa, hB⟩ := hrel
    by_cases hk6 : k < 6
    · obtain ⟨⟨u0, c0⟩, f0⟩ := (hWa.below (below_alloc wr (.cells (zrow 32) 30))).some hk6
      have i1 : decide ((k : Int) < 6) = true := decide_eq_true (by omega)
      have i2 : (k : Int) < 6 := by omega
      have hb1 := below_alloc wr (.cells (zrow 32) 30)
      have HWs : Hid _ := ((hWa.below hb1).set k hk6 _ _ (made_row wr) (by simp)).2 rfl
      have HKs : Hid (KAt ((wr.alloc (.cells (zrow 32) 30)).setCell ⟨wb, k, none⟩ (.slice (some ⟨wr.heap.size, 0, none⟩) 32 32)) K0 Y 6 0 (V0 6) L0 T6) :=
        (hK.below hb1).keepP ((Upd.setCell wb k _ _).p (fun b => b = wb) rfl) (fun e => by
          obtain ⟨row, hr, _⟩ := hWa.below hb1
          exact apart (hK.below hb1).head hr (by decide) e) (fun b hb e => by
          subst e
          exact (hWa.below hb1).foot (hK.below hb1) hb) (fun b e cur fr hh => by
          obtain ⟨row, hr, _⟩ := hWa.below hb1
          exact apart hh hr (by decide) e)
      have HBs : Hid (Below w.heap.size w ((wr.alloc (.cells (zrow 32) 30)).setCell ⟨wb, k, none⟩ (.slice (some ⟨wr.heap.size, 0, none⟩) 32 32))) := (hB.alloc hB.size _).setCell HWB.out _
      clear hK hWa hB hb1
      generalize hzr : zrow 32 = zr at *
      clear hzr
      go_wp2
      go_roundw
      case rel => exact ⟨k + 1, by omega, by go_num, HKs.out, WantAt.same HWs.out (fun i hi => by split <;> rfl), HBs.out⟩
      case measure => simp [intOf]; omega
    · have i6 : decide ((k : Int) < 6) = false := decide_eq_false (by omega)
      have i7 : ¬ ((k : Int) < 6) := by omega
      have HI : Hid (SI wr w K0 Y wb 0 (V0 6) L0 (fun _ => List.replicate 32 0)) := by
        obtain rfl : k = 6 := by omega
        exact ⟨hK, hWa, Tidy.zero 6 _, fun i hi => by
          show frameOf (V0 6) i = _
          exact frame_zeros 6 i hi, hB⟩
      clear hK hWa hB hm6
      go_wp2
      go_loopw [8] (fun s wr => ∃ (j m : Nat) (vs : List Int) (l : Lines) (wt : Nat → List Int), j ≤ 100 ∧ s = .int .i64 j ∧ m ≤ j * 6 ∧ SI wr w K0 Y wb m vs l wt) (fun s _ => 100 - (intOf s).toNat)
      case atStart => exact ⟨0, 0, _, _, _, by omega, rfl, by omega, HI.out⟩
      case round =>
        clear HI
        obtain ⟨j, m, vs, l, wt, hj, rfl, hm, hI⟩ := hrel
        by_cases hlt : j < len ∧ j < 100
        · obtain ⟨hjl, hj100⟩ := hlt
          obtain ⟨gb, off, d, rfl, hfit, ⟨e0, e1, e2, e3⟩, e4, e5, e6⟩ := (hdeeds.out.below hI.old) j hjl
          obtain ⟨kd, en, sl, ds, fi, nn, vv⟩ := d
          dsimp only at e0 e1 e2 e3 e4 e5 e6
          have g0 : decide ((j : Int) < (len : Int)) = true := decide_eq_true (by omega)
          have g1 : decide ((j : Int) < 100) = true := decide_eq_true (by omega)
          have ij : (j : Int) < (len : Int) := by omega
          have ij2 : (j : Int) < 100 := by omega
          obtain ⟨W, hW⟩ : ∃ W, W = wr.alloc (.cells (deRow ⟨kd, en, sl, ds, fi, nn, vv⟩) 32) := ⟨_, rfl⟩
          have hbW : Below wr.heap.size wr W := by rw [hW]; exact below_alloc _ _
          have hx : W.heap[wr.heap.size]? = some (.cells (deRow ⟨kd, en, sl, ds, fi, nn, vv⟩) 32) := by rw [hW]; exact heap_alloc_new _ _
          have HX : Hid _ := hx
          have HIW : Hid _ := hI.below hbW
          have HFi : Hid (I64 fi) := hfit.ff
          have HsW : Hid (wr.heap.size < W.heap.size) := lt_of_heap hx
          obtain ⟨⟨x0, -, -, -⟩, x4, -, x6⟩ := deCells hx
          simp only [Nat.zero_add] at x0 x4 x6
          clear hbW hx hI hfit
          dsimp only [deRow] at hW
          go_wp2_with fail
          rw [← hW]
          clear hW e0 e1 e2 e3 e4 e5 e6
          generalize wr.heap.size = D at *
          refine wp_region_held_drew (S := fun w' => w'.cell? ⟨D, 4, none⟩ = some (.int .i64 fi) ∧ w'.cell? ⟨D, 6, none⟩ = some (.int .u64 vv)) (by kernel_rfl) ⟨x4, x6⟩ (fun hHeld => ?_)
          refine wpAnyH_take (i := 0) (v := ?_) rfl (by kernel_rfl) (by kernel_rfl) (by kernel_rfl) (fun _ _ _ h => h) (Or.inl ⟨by kernel_rfl, ?_⟩) (by assumption) ?_
          rotate_left
          · (intro w hSw; (try dsimp only at hSw); go_simp) <;> with_reducible rfl
          (try simp only [Act.put, List.getElem_toArray, List.getElem_cons_zero, List.setIfInBounds_toArray, List.set_cons_zero, List.set_cons_succ])
          refine wpAnyH_take (i := 1) (v := ?_) rfl (by kernel_rfl) (by kernel_rfl) (by kernel_rfl) (fun _ _ _ h => h) (Or.inl ⟨by kernel_rfl, ?_⟩) (by assumption) ?_
          rotate_left
          · (intro w hSw; (try dsimp only at hSw); go_simp) <;> with_reducible rfl
          (try simp only [Act.put, List.getElem_toArray, List.getElem_cons_zero, List.getElem_cons_succ, List.setIfInBounds_toArray, List.set_cons_zero, List.set_cons_succ])
          refine wpAnyH_take (i := 2) (v := ?_) rfl (by kernel_rfl) (by kernel_rfl) (by kernel_rfl) (fun _ _ _ h => h) (Or.inl ⟨by kernel_rfl, ?_⟩) (by assumption) ?_
          rotate_left
          · (intro w hSw; (try dsimp only at hSw); go_simp) <;> with_reducible rfl
          (try simp only [Act.put, List.getElem_toArray, List.getElem_cons_zero, List.getElem_cons_succ, List.setIfInBounds_toArray, List.set_cons_zero, List.set_cons_succ])
          refine wpAnyH_take (i := 3) (v := ?_) rfl (by kernel_rfl) (by kernel_rfl) (by kernel_rfl) (fun _ _ _ h => h) (Or.inl ⟨by kernel_rfl, ?_⟩) (by assumption) ?_
          rotate_left
          · (intro w hSw; (try dsimp only at hSw); go_simp) <;> with_reducible rfl
          (try simp only [Act.put, List.getElem_toArray, List.getElem_cons_zero, List.getElem_cons_succ, List.setIfInBounds_toArray, List.set_cons_zero, List.set_cons_succ])
          refine wpAnyH_take (i := 4) (v := ?_) rfl (by kernel_rfl) (by kernel_rfl) (by kernel_rfl) (fun _ _ _ h => h) (Or.inl ⟨by kernel_rfl, ?_⟩) (by assumption) ?_
          rotate_left
          · (intro w hSw; (try dsimp only at hSw); go_simp) <;> with_reducible rfl
          (try simp only [Act.put, List.getElem_toArray, List.getElem_cons_zero, List.getElem_cons_succ, List.setIfInBounds_toArray, List.set_cons_zero, List.set_cons_succ])
          refine wpAnyH_ready (rs := [5]) (by kernel_rfl) (by simp) ?_
          refine AllReadyH.cons rfl (fun K hK => ?_) AllReadyH.nil
          go_simp
          refine (Di.block_row 32 vv W.drew).mono ?_
          rintro x w3 ⟨u3, rfl, hr3, hb3⟩
          have hB3 : Below W.heap.size W w3 := Below.trans (b := W.drew) ⟨rfl, rfl, rfl, Nat.le_refl _, fun _ _ => rfl⟩ hb3
          have hI3 := HIW.out.below hB3
          have hx3 : w3.heap[D]? = some (.cells (deRow ⟨kd, en, sl, ds, fi, nn, vv⟩) 32) := (hB3.block _ HsW.out).trans HX.out
          obtain ⟨⟨y0, -, -, -⟩, y4, -, y6⟩ := deCells hx3
          simp only [Nat.zero_add] at y0 y4 y6
          have hws := aw_block vv
          have HBk : Hid (∀ W : World, Calls Try.prog 9 #[.int .i64 32, .int .u64 vv] W fun e w' => ∃ u, e = .returned u ∧ URow W.heap.size w' u (Di.blk vv (Di.cnt 32)) ∧ Below W.heap.size W w') := fun W => Di.block_row 32 vv W
          generalize Di.blk vv (Di.cnt 32) = ws at *
          have hp := xput_at hI3.ker 1 1 fi HFi.out hr3
          have HWs : Hid _ := hws
          have HI3 : Hid _ := hI3
          have HX3 : Hid _ := hx3
          clear hB3 hb3 hr3 hI3 hx3 hws HX HIW HsW
          refine hK.out _ _ ⟨y4, y6⟩ (fun hHeld => ?_)
          clear hK K
          (try simp only [Act.put, List.getElem_toArray, List.getElem_cons_zero, List.getElem_cons_succ, List.setIfInBounds_toArray, List.set_cons_zero, List.set_cons_succ])
          have hnd := deNo HI3.out.ker HX3.out
          by_cases hfi : 0 ≤ fi ∧ fi < 6
          · obtain ⟨f, rfl⟩ := nat_of fi hfi.1
            have hf6 : f < 6 := by omega
            rw [(sy_yes f hf6 l ws HWs.out).1, (sy_yes f hf6 l ws HWs.out).2] at hp
            have if1 : ¬ ((f : Int) < 0) := by omega
            have if2 : decide ((f : Int) < 0) = false := decide_eq_false (by omega)
            have if3 : decide (6 ≤ (f : Int)) = false := decide_eq_false (by omega)
            have if4 : (f : Int) < 6 := by omega
            clear hfi
            refine wpAnyH_ready (rs := [6]) (by kernel_rfl) (by simp) ?_
            refine AllReadyH.cons rfl (fun K hK => ?_) AllReadyH.nil
            go_simp
            refine hp.mono ?_
            rintro x w4 ⟨rfl, hK4, hu4⟩
            have hx4 : w4.heap[D]? = some (.cells (deRow ⟨kd, en, sl, ds, f, nn, vv⟩) 32) := (hu4.block _ (lt_of_heap HX3.out) hnd).trans HX3.out
            obtain ⟨⟨z0, -, -, -⟩, z4, -, z6⟩ := deCells hx4
            simp only [Nat.zero_add] at z0 z4 z6
            have HW4 : Hid (WantAt w4 wb wt 6) := HI3.out.want.keepT hu4 (HI3.out.want.foot HI3.out.ker) HI3.out.ker.noW
            have HB4 : Hid (Below w.heap.size w w4) := feet_below HI3.out.old HF.out hu4
            have HK4 : Hid _ := hK4
            have HX4 : Hid _ := hx4
            clear hx4 hK4 hu4 hp y0 y4 y6 x0 x4 x6
            refine hK.out _ _ ⟨z4, z6⟩ (fun hHeld => ?_)
            clear hK K
            (try simp only [Act.put, List.getElem_toArray, List.getElem_cons_zero, List.getElem_cons_succ, List.setIfInBounds_toArray, List.set_cons_zero, List.set_cons_succ])
            refine wpAnyH_take (i := 7) (v := ?_) rfl (by kernel_rfl) (by kernel_rfl) (by kernel_rfl) (fun _ _ _ h => h) (Or.inl ⟨by kernel_rfl, ?_⟩) (by assumption) ?_
            rotate_left
            · (intro w hSw; (try dsimp only at hSw); go_simp) <;> with_reducible rfl
            (try simp only [Act.put, List.getElem_toArray, List.getElem_cons_zero, List.getElem_cons_succ, List.setIfInBounds_toArray, List.set_cons_zero, List.set_cons_succ])
            refine wpAnyH_done (by kernel_rfl) ?_ _
            go_wp2_with fail
            refine wp_region_held_drew (S := fun w' => w'.cell? ⟨D, 4, none⟩ = some (.int .i64 f) ∧ w'.cell? ⟨D, 6, none⟩ = some (.int .u64 vv)) (by kernel_rfl) ⟨z4, z6⟩ (fun hHeld2 => ?_)
            refine wpAnyH_take (i := 0) (v := ?_) rfl (by kernel_rfl) (by kernel_rfl) (by kernel_rfl) (fun _ _ _ h => h) (Or.inl ⟨by kernel_rfl, ?_⟩) (by assumption) ?_
            rotate_left
            · (intro w hSw; (try dsimp only at hSw); go_simp) <;> with_reducible rfl
            (try simp only [Act.put, List.getElem_toArray, List.getElem_cons_zero, List.setIfInBounds_toArray, List.set_cons_zero, List.set_cons_succ])
            refine wpAnyH_take (i := 1) (v := ?_) rfl (by kernel_rfl) (by kernel_rfl) (by kernel_rfl) (fun _ _ _ h => h) (Or.inl ⟨by kernel_rfl, ?_⟩) (by assumption) ?_
            rotate_left
            · (intro w hSw; (try dsimp only at hSw); go_simp) <;> with_reducible rfl
            (try simp only [Act.put, List.getElem_toArray, List.getElem_cons_zero, List.getElem_cons_succ, List.setIfInBounds_toArray, List.set_cons_zero, List.set_cons_succ])
            refine wpAnyH_take (i := 2) (v := ?_) rfl (by kernel_rfl) (by kernel_rfl) (by kernel_rfl) (fun _ _ _ h => h) (Or.inl ⟨by kernel_rfl, ?_⟩) (by assumption) ?_
            rotate_left
            · (intro w hSw; (try dsimp only at hSw); go_simp) <;> with_reducible rfl
            (try simp only [Act.put, List.getElem_toArray, List.getElem_cons_zero, List.getElem_cons_succ, List.setIfInBounds_toArray, List.set_cons_zero, List.set_cons_succ])
            refine wpAnyH_take (i := 3) (v := ?_) rfl (by kernel_rfl) (by kernel_rfl) (by kernel_rfl) (fun _ _ _ h => h) (Or.inl ⟨by kernel_rfl, ?_⟩) (by assumption) ?_
            rotate_left
            · (intro w hSw; (try dsimp only at hSw); go_simp) <;> with_reducible rfl
            (try simp only [Act.put, List.getElem_toArray, List.getElem_cons_zero, List.getElem_cons_succ, List.setIfInBounds_toArray, List.set_cons_zero, List.set_cons_succ])
            refine wpAnyH_take (i := 4) (v := ?_) rfl (by kernel_rfl) (by kernel_rfl) (by kernel_rfl) (fun _ _ _ h => h) (Or.inl ⟨by kernel_rfl, ?_⟩) (by assumption) ?_
            rotate_left
            · (intro w hSw; (try dsimp only at hSw); go_simp) <;> with_reducible rfl
            (try simp only [Act.put, List.getElem_toArray, List.getElem_cons_zero, List.getElem_cons_succ, List.setIfInBounds_toArray, List.set_cons_zero, List.set_cons_succ])
            refine wpAnyH_ready (rs := [5]) (by kernel_rfl) (by simp) ?_
            refine AllReadyH.cons rfl (fun K hK => ?_) AllReadyH.nil
            go_simp
            refine (HBk.out w4.drew).mono ?_
            rintro x w5 ⟨u5, rfl, hr5, hb5⟩
            have hB5 : Below w4.heap.size w4 w5 := Below.trans (b := w4.drew) ⟨rfl, rfl, rfl, Nat.le_refl _, fun _ _ => rfl⟩ hb5
            have hx5 : w5.heap[D]? = some (.cells (deRow ⟨kd, en, sl, ds, f, nn, vv⟩) 32) := (hB5.block _ (lt_of_heap HX4.out)).trans HX4.out
            obtain ⟨⟨z0, -, -, -⟩, z4, -, z6⟩ := deCells hx5
            simp only [Nat.zero_add] at z0 z4 z6
            obtain ⟨g5, c5, rfl, -⟩ := hr5.has HWs.out
            have hK5 := HK4.out.below hB5
            have hW5 := WantAt.below HW4.out hB5
            have hO5 : Below w.heap.size w w5 := HB4.out.trans (hB5.mono HB4.out.size)
            obtain ⟨⟨u0, v0⟩, v1⟩ := hW5.some hf6
            obtain ⟨Z, hZ⟩ : ∃ Z, Z = w5.setCell ⟨wb, f, none⟩ (.slice (some ⟨g5, 0, none⟩) 32 c5) := ⟨_, rfl⟩
            have HI6 : Hid (SI Z w K0 Y wb m vs (putL l f ws) (fun i => if i = f then ws else wt i)) := by
              rw [hZ]
              refine ⟨?_, (hW5.set f hf6 _ ws (hr5.mono (Nat.zero_le _)) HWs.out).1, HI3.out.tidy.put f ws, fun i hi => ?_, hO5.setCell HWB.out _⟩
              · exact hK5.keepP ((Upd.setCell wb f _ _).p (fun b => b = wb) rfl) (fun e => by
                  obtain ⟨row, hr, _⟩ := hW5
                  exact apart hK5.head hr (by decide) e) (fun b hb e => by
                  subst e
                  exact hW5.foot hK5 hb) (fun b e cur fr hh => by
                  obtain ⟨row, hr, _⟩ := hW5
                  exact apart hh hr (by decide) e)
              · rw [look_put]
                show _ = if i = f then ws else wt i
                rw [HI3.out.eq i hi]
            have hxZ : Z.heap[D]? = some (.cells (deRow ⟨kd, en, sl, ds, f, nn, vv⟩) 32) := by
              rw [hZ]
              exact (Below.heap_setCell _ _ _ _ (by
                obtain ⟨row, hr, _⟩ := hW5
                exact apart hx5 hr (by decide))).trans hx5
            obtain ⟨⟨t0, -, -, -⟩, t4, -, t6⟩ := deCells hxZ
            simp only [Nat.zero_add] at t0 t4 t6
            clear hx5 hxZ hK5 hW5 hO5 hr5 hb5 hB5 HK4 HW4 HB4 HX4
            refine hK.out _ _ ⟨z4, z6⟩ (fun hHeld => ?_)
            clear hK K
            (try simp only [Act.put, List.getElem_toArray, List.getElem_cons_zero, List.getElem_cons_succ, List.setIfInBounds_toArray, List.set_cons_zero, List.set_cons_succ])
            refine wpAnyH_take (i := 6) (v := ?_) rfl (by kernel_rfl) (by kernel_rfl) (by kernel_rfl) (fun _ _ _ h => h) (Or.inl ⟨by kernel_rfl, ?_⟩) (by assumption) ?_
            rotate_left
            · (intro w hSw; (try dsimp only at hSw); go_simp) <;> with_reducible rfl
            (try simp only [Act.put, List.getElem_toArray, List.getElem_cons_zero, List.getElem_cons_succ, List.setIfInBounds_toArray, List.set_cons_zero, List.set_cons_succ])
            refine wpAnyH_ready (rs := [7]) (by kernel_rfl) (by simp) ?_
            refine AllReadyH.cons rfl (fun K hK => ?_) AllReadyH.nil
            go_simp
            rw [← hZ]
            clear hZ z0 z4 z6 v0 v1
            refine hK.out _ _ ⟨t4, t6⟩ (fun hHeld => ?_)
            clear hK K
            (try simp only [Act.put, List.getElem_toArray, List.getElem_cons_zero, List.getElem_cons_succ, List.setIfInBounds_toArray, List.set_cons_zero, List.set_cons_succ])
            refine wpAnyH_done (by kernel_rfl) ?_ _
            by_cases hk5 : kd = 5
            · subst hk5
              have hsy := xsync_at HI6.out.ker (by omega)
              go_wp2_with fail
              refine hsy.mono ?_
              rintro x w7 ⟨rfl, hK7, hu7⟩
              have HI7 : Hid _ := HI6.out.sync HF.out hK7 hu7
              clear hK7 hu7 hsy HI6
              go_wp2
              go_roundw
              case rel => exact ⟨j + 1, m + 6, _, _, _, by omega, by go_num, by omega, HI7.out⟩
              case measure => simp [intOf]; omega
            · have i5 : (kd == 5) = false := beq_eq_false_iff_ne.2 hk5
              go_wp2
              go_roundw
              case rel => exact ⟨j + 1, m, _, _, _, by omega, by go_num, by omega, HI6.out⟩
              case measure => simp [intOf]; omega
          · rw [(sy_no fi hfi l ws ws.length).1, (sy_no fi hfi l ws ws.length).2] at hp
            clear hfi
            refine wpAnyH_ready (rs := [6]) (by kernel_rfl) (by simp) ?_
            refine AllReadyH.cons rfl (fun K hK => ?_) AllReadyH.nil
            go_simp
            refine hp.mono ?_
            rintro x w4 ⟨rfl, hK4, hu4⟩
            have hx4 : w4.heap[D]? = some (.cells (deRow ⟨kd, en, sl, ds, fi, nn, vv⟩) 32) := (hu4.block _ (lt_of_heap HX3.out) hnd).trans HX3.out
            obtain ⟨⟨z0, -, -, -⟩, z4, -, z6⟩ := deCells hx4
            simp only [Nat.zero_add] at z0 z4 z6
            have HI6 : Hid (SI w4 w K0 Y wb m vs l wt) := ⟨hK4, HI3.out.want.keepT hu4 (HI3.out.want.foot HI3.out.ker) HI3.out.ker.noW, HI3.out.tidy, HI3.out.eq, feet_below HI3.out.old HF.out hu4⟩
            clear hx4 hK4 hu4 hp y0 y4 y6 x0 x4 x6
            refine hK.out _ _ ⟨z4, z6⟩ (fun hHeld => ?_)
            clear hK K
            (try simp only [Act.put, List.getElem_toArray, List.getElem_cons_zero, List.getElem_cons_succ, List.setIfInBounds_toArray, List.set_cons_zero, List.set_cons_succ])
            refine wpAnyH_take (i := 7) (v := ?_) rfl (by kernel_rfl) (by kernel_rfl) (by kernel_rfl) (fun _ _ _ h => h) (Or.inl ⟨by kernel_rfl, ?_⟩) (by assumption) ?_
            rotate_left
            · (intro w hSw; (try dsimp only at hSw); go_simp) <;> with_reducible rfl
            (try simp only [Act.put, List.getElem_toArray, List.getElem_cons_zero, List.getElem_cons_succ, List.setIfInBounds_toArray, List.set_cons_zero, List.set_cons_succ])
            refine wpAnyH_done (by kernel_rfl) ?_ _
            by_cases hk5 : kd = 5
            · subst hk5
              have hsy := xsync_at HI6.out.ker (by omega)
              go_wp2_with fail
              refine hsy.mono ?_
              rintro x w7 ⟨rfl, hK7, hu7⟩
              have HI7 : Hid _ := HI6.out.sync HF.out hK7 hu7
              clear hK7 hu7 hsy HI6
              go_wp2
              go_roundw
              case rel => exact ⟨j + 1, m + 6, _, _, _, by omega, by go_num, by omega, HI7.out⟩
              case measure => simp [intOf]; omega
            · have i5 : (kd == 5) = false := beq_eq_false_iff_ne.2 hk5
              go_wp2
              go_roundw
              case rel => exact ⟨j + 1, m, _, _, _, by omega, by go_num, by omega, HI6.out⟩
              case measure => simp [intOf]; omega
        · have HI : Hid _ := hI
          clear hI
          have gg : (j < len ∧ decide ((j : Int) < (len : Int)) = true ∧ decide ((j : Int) < 100) = false) ∨ (¬ j < len ∧ decide ((j : Int) < (len : Int)) = false) := by
            by_cases hkl : j < len
            · exact Or.inl ⟨hkl, decide_eq_true (by omega), decide_eq_false (by omega)⟩
            · exact Or.inr ⟨hkl, decide_eq_false (by omega)⟩
          have hsy := xsync_at HI.out.ker (by omega)
          rcases gg with ⟨hkl, g0, g1⟩ | ⟨hkl, g0⟩
          all_goals
            go_wp2_with fail
            refine hsy.mono ?_
            rintro x w7 ⟨rfl, hK7, hu7⟩
            have HI7 : Hid _ := HI.out.sync HF.out hK7 hu7
            have HD : Hid (∀ i, i < 6 → frameOf (syncV l vs 6) i = wt i) := fun i hi => by rw [disk_sync HI.out.tidy HI.out.ker.linv HI.out.ker.len i hi]; exact HI.out.eq i hi
            have HN : Hid (syncN (syncL l 6) 6 = 0) := sync_sync l 6
            clear hK7 hu7 hsy HI
            generalize syncV l vs 6 = vs7 at *
            generalize syncL l 6 = l7 at *
            go_wp2
            go_loopw [10] (fun s wr => ∃ (i m' : Nat), i ≤ 6 ∧ s = .int .i64 i ∧ m' ≤ 606 + i ∧ SI wr w K0 Y wb m' vs7 l7 wt) (fun s _ => 6 - (intOf s).toNat)
            case atStart => exact ⟨0, m + 6, by omega, rfl, by omega, HI7.out⟩
            case round =>
              clear HI7
              obtain ⟨i, m', hi, rfl, hm', hIq⟩ := hrel
              by_cases hi6 : i < 6
              · have i1 : decide ((i : Int) < 6) = true := decide_eq_true (by omega)
                have i2 : (i : Int) < 6 := by omega
                obtain ⟨v, c0, hr, hl⟩ := hIq.want.cell hi6
                have hIQ : SI wr.drew w K0 Y wb m' vs7 l7 wt := hIq.below ⟨rfl, rfl, rfl, Nat.le_refl _, fun _ _ => rfl⟩
                have hdk := xdisk_at hIQ.ker i (by omega)
                have hdw : diskW 6 vs7 i = wt i := by
                  unfold diskW
                  rw [if_pos ⟨by omega, by omega⟩, Int.toNat_natCast]
                  exact HD.out i hi6
                rw [hdw] at hdk
                have HQ : Hid _ := hIQ
                have Hr : Hid (URow 0 wr v (wt i)) := hr
                have Hl : Hid _ := hl
                clear hIq hIQ hr hl hdw
                go_wp2_with fail
                refine wp_region_held_drew (S := fun w' => w'.cell? ⟨wb, i, none⟩ = some v) (by kernel_rfl) c0 (fun hHeld => ?_)
                refine wpAnyH_take (i := 0) (v := ?_) rfl (by kernel_rfl) (by kernel_rfl) (by kernel_rfl) (fun _ _ _ h => h) (Or.inl ⟨by kernel_rfl, ?_⟩) (by assumption) ?_
                rotate_left
                · (intro w hSw; (try dsimp only at hSw); go_simp) <;> with_reducible rfl
                (try simp only [Act.put, List.getElem_toArray, List.getElem_cons_zero, List.setIfInBounds_toArray, List.set_cons_zero, List.set_cons_succ])
                refine wpAnyH_take (i := 1) (v := ?_) rfl (by kernel_rfl) (by kernel_rfl) (by kernel_rfl) (fun _ _ _ h => h) (Or.inl ⟨by kernel_rfl, ?_⟩) (by assumption) ?_
                rotate_left
                · (intro w hSw; (try dsimp only at hSw); go_simp) <;> with_reducible rfl
                (try simp only [Act.put, List.getElem_toArray, List.getElem_cons_zero, List.getElem_cons_succ, List.setIfInBounds_toArray, List.set_cons_zero, List.set_cons_succ])
                refine wpAnyH_take (i := 3) (v := ?_) rfl (by kernel_rfl) (by kernel_rfl) (by kernel_rfl) (fun _ _ _ h => h) (Or.inl ⟨by kernel_rfl, ?_⟩) (by assumption) ?_
                rotate_left
                · (intro w hSw; (try dsimp only at hSw); go_simp) <;> with_reducible rfl
                (try simp only [Act.put, List.getElem_toArray, List.getElem_cons_zero, List.getElem_cons_succ, List.setIfInBounds_toArray, List.set_cons_zero, List.set_cons_succ])
                refine wpAnyH_take (i := 4) (v := ?_) rfl (by kernel_rfl) (by kernel_rfl) (by kernel_rfl) (fun _ _ _ h => h) (Or.inl ⟨by kernel_rfl, ?_⟩) (by assumption) ?_
                rotate_left
                · (intro w hSw; (try dsimp only at hSw); go_simp) <;> with_reducible rfl
                (try simp only [Act.put, List.getElem_toArray, List.getElem_cons_zero, List.getElem_cons_succ, List.setIfInBounds_toArray, List.set_cons_zero, List.set_cons_succ])
                refine wpAnyH_take (i := 5) (v := ?_) rfl (by kernel_rfl) (by kernel_rfl) (by kernel_rfl) (fun _ _ _ h => h) (Or.inl ⟨by kernel_rfl, ?_⟩) (by assumption) ?_
                rotate_left
                · (intro w hSw; (try dsimp only at hSw); go_simp) <;> with_reducible rfl
                (try simp only [Act.put, List.getElem_toArray, List.getElem_cons_zero, List.getElem_cons_succ, List.setIfInBounds_toArray, List.set_cons_zero, List.set_cons_succ])
                refine wpAnyH_take (i := 6) (v := ?_) rfl (by kernel_rfl) (by kernel_rfl) (by kernel_rfl) (fun _ _ _ h => h) (Or.inl ⟨by kernel_rfl, ?_⟩) (by assumption) ?_
                rotate_left
                · (intro w hSw; (try dsimp only at hSw); go_simp) <;> with_reducible rfl
                (try simp only [Act.put, List.getElem_toArray, List.getElem_cons_zero, List.getElem_cons_succ, List.setIfInBounds_toArray, List.set_cons_zero, List.set_cons_succ])
                refine wpAnyH_ready (rs := [2]) (by kernel_rfl) (by simp) ?_
                refine AllReadyH.cons rfl (fun K hK => ?_) AllReadyH.nil
                go_simp
                refine hdk.mono ?_
                rintro x w8 ⟨v8, rfl, hr8, hK8, hu8⟩
                have hu8' : UpdP (XFoot Y) wr w8 := UpdP.trans (b := wr.drew) ⟨rfl, rfl, rfl, Nat.le_refl _, fun _ _ _ => rfl⟩ hu8
                have hW8 := HQ.out.want.keepT hu8 (HQ.out.want.foot HQ.out.ker) HQ.out.ker.noW
                have hI8 : SI w8 w K0 Y wb (m' + 1) vs7 l7 wt := ⟨hK8, hW8, HQ.out.tidy, HQ.out.eq, feet_below HQ.out.old HF.out hu8⟩
                have c8 : w8.cell? ⟨wb, i, none⟩ = some v := (World.cell?_of_block (w := wr.drew) (a := ⟨wb, i, none⟩) (hu8.block _ HQ.out.want.lt (HQ.out.want.foot HQ.out.ker))).trans c0
                have hrv : URow 0 w8 v (wt i) := URow.keepT (w := wr.drew) Hr.out hu8 HQ.out.ker.noW
                have hws := Di.words_same wr.drew.heap.size 0 v8 v (wt i) w8 hr8 hrv (by rw [Hl.out]; omega)
                have HI8 : Hid _ := hI8
                clear hr8 hK8 hu8 hu8' hW8 hI8 hrv hdk c0 HQ Hr
                refine hK.out _ _ c8 (fun hHeld => ?_)
                clear hK K
                (try simp only [Act.put, List.getElem_toArray, List.getElem_cons_zero, List.getElem_cons_succ, List.setIfInBounds_toArray, List.set_cons_zero, List.set_cons_succ])
                refine wpAnyH_ready (rs := [7]) (by kernel_rfl) (by simp) ?_
                refine AllReadyH.cons rfl (fun K hK => ?_) AllReadyH.nil
                go_simp
                refine hws.mono ?_
                rintro x w9 ⟨rfl, hq9⟩
                have hb9 := Di.drewN_below hq9
                have HI9 : Hid _ := HI8.out.below hb9
                have c9 : w9.cell? ⟨wb, i, none⟩ = some v := (hb9.cell (cell_lt c8)).trans c8
                clear hws hq9 hb9 c8 HI8
                refine hK.out _ _ c9 (fun hHeld => ?_)
                clear hK K
                (try simp only [Act.put, List.getElem_toArray, List.getElem_cons_zero, List.getElem_cons_succ, List.setIfInBounds_toArray, List.set_cons_zero, List.set_cons_succ])
                refine wpAnyH_take (i := 8) (v := ?_) rfl (by kernel_rfl) (by kernel_rfl) (by kernel_rfl) (fun _ _ _ h => h) (Or.inl ⟨by kernel_rfl, ?_⟩) (by assumption) ?_
                rotate_left
                · (intro w hSw; (try dsimp only at hSw); go_simp) <;> with_reducible rfl
                (try simp only [Act.put, List.getElem_toArray, List.getElem_cons_zero, List.getElem_cons_succ, List.setIfInBounds_toArray, List.set_cons_zero, List.set_cons_succ])
                refine wpAnyH_done (by kernel_rfl) ?_ _
                go_wp2
                go_roundw
                case rel => exact ⟨i + 1, m' + 1, by omega, by go_num, by omega, HI9.out⟩
                case measure => simp [intOf]; omega
              · obtain rfl : i = 6 := by omega
                have hsz := xsync_at hIq.ker (by omega)
                rw [HN.out] at hsz
                have HQ : Hid _ := hIq
                clear hIq
                go_wp2_with fail
                refine hsz.mono ?_
                rintro x w8 ⟨rfl, hK8, hu8⟩
                have HB8 : Hid (Below w.heap.size w w8) := feet_below HQ.out.old HF.out hu8
                clear hK8 hu8 hsz HQ
                go_wp2_with fail
                refine (Go.Proofs.Ytfnafjddajgahab.awake_at _).mono ?_
                rintro x w9 ⟨rfl, hb9⟩
                go_wp2
                go_ret
                exact ⟨rfl, HB8.out.trans (hb9.mono HB8.out.size)⟩

theorem own : ownKnob Try.prog.godebug = none := by kernel_rfl
theorem laidOut : laidOutB Try.prog = true := by kernel_rfl

set_option maxRecDepth 100000 in
theorem syncs_lifted (os : Os) (started : os.Started) (H : Type) (enc : TypeId × Value → H) :
    ReturnsInHanded {} Try.checked os 3 .any (Rows.exodiskSyncsSpec.pre6 enc Try.prog Try.f3 Rows.exodiskSyncsRow.domain false) (Rows.exodiskSyncsSpec.post enc Try.prog Try.f3 false true false false) := by
  refine returnsInHanded_of_change (C := Try.checked) own started (by kernel_rfl) Try.func3
    (ChangeSpec.witness6 (enc := enc) (C := Try.checked) false ⟨#[], #[.slice none 0 0], []⟩ 8 (by kernel_rfl) (by kernel_rfl) (by kernel_rfl) (by kernel_rfl)) ?_
  intro W base args ds gs before hval0 hW hcnd _
  have hval : ∀ (j : Nat) t v, Try.f3.params[j]? = some t → args[j]? = some v → Value.okWide Try.prog W .any base t v := hval0
  have hW' := hW
  obtain ⟨p, q, hA0, hV, rfl, hfz, hnd⟩ := hW
  have hA : DataW.TrodAll enc Try.prog W 0 (fun _ => true) true Try.f3.params.toList args.toList ds p := hA0
  rw [Try.params3] at hA hval
  obtain ⟨v0, vs0, d0, ds0, p0, q0, hargs, rfl, rfl, h0, r0⟩ := trodAll_cons hA
  obtain ⟨rfl, rfl, rfl⟩ := trodAll_nil r0
  obtain rfl : args = #[v0] := by cases args; simp_all
  obtain ⟨rfl, rfl⟩ := trodVars_none hV
  have k0 := h0
  have lt0 : ∀ x ∈ p0, x.block < W.heap.size := by obtain ⟨m, hm⟩ := k0; exact DataW.trod_lt m _ _ _ hm
  obtain ⟨a0, len0, cap0, rfl⟩ := okWide_slice Try.underlying22 (hval 0 22 v0 rfl rfl)
  clear hA0 hval0
  have hdeeds : len0 ≤ 9223372036854775807 ∧ DesAt W a0 len0 := by
    obtain ⟨fuel, hf⟩ := h0
    obtain ⟨hl, hc⟩ := slice_fits (l := deCK) Try.underlying22 deKinds (by simp) deSize (by simpa [Value.cells] using hf)
    exact ⟨hl, des_of hc⟩
  have hwalk : Calls Try.prog 3 #[.slice a0 len0 cap0] W fun e w' => e = .returned (.bool true) ∧ Below W.heap.size W w' := syncs_walk a0 len0 cap0 W hdeeds.1 hdeeds.2
  refine hwalk.mono fun e W' ⟨he, bel⟩ => ?_
  subst he
  exact ⟨_, rfl, _, _, _, [], _, [], hW', trodAll_mk1 (shut_bool Try.underlying4 _), (trodAll_cons_mk (Below.trod laidOut (by kernel_rfl) (of_decide_eq_true (by kernel_rfl)) k0 bel lt0) trodAll_mk0), rfl, bel.frame _, fun h => by cases h⟩

theorem syncs_holds : Rows.ExodiskSyncsSaid :=
  OpenClaim.holds_of_wide 3 Try.f3 rfl rfl rfl rfl rfl rfl rfl ⟨rfl, rfl, rfl, rfl, rfl⟩ rfl rfl rfl rfl rfl (by kernel_rfl) Try.func3 (by kernel_rfl)
    (of_decide_eq_true (by kernel_rfl)) (by unfold Func.isWrapper; first | (rw [if_pos (by decide +kernel)]; kernel_rfl) | (rw [if_neg (by decide +kernel)]; exact ⟨rfl, rfl⟩))
    (fun os started H enc _ => syncs_lifted os started H enc)
#print axioms syncs_holds
end Go.Proofs.Ytfnafjddajgahab
