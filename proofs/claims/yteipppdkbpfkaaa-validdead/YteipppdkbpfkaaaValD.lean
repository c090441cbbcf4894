/- The contract of depthsOf: the search that goes over all that can be reached. -/
import Derived.Test.YteipppdkbpfkaaaValC
import Derived.OneCell
import Derived.Deep.LoopGhost
namespace Go.Proofs.Yteipppdkbpfkaaa
open Go.RowKit
set_option linter.unusedVariables false

/-- A slice at a0 holds these ints. -/
def IRow (w : World) (a0 : Option Addr) (D : List Int) : Prop := ∀ (j : Nat) (x : Int), D[j]? = some x → ∃ gb off, a0 = some ⟨gb, off, none⟩ ∧ w.cell? ⟨gb, off + j, none⟩ = some (.int .i64 x)
theorem IRow.below {w w' : World} {a0 : Option Addr} {D : List Int} (h : IRow w a0 D) (hb : Below w.heap.size w w') : IRow w' a0 D := by
  intro j x hj
  obtain ⟨gb, off, ha, hc⟩ := h j x hj
  exact ⟨gb, off, ha, by rw [hb.cell (cell_lt hc)]; exact hc⟩
theorem irow_get {D : List Int} {j : Nat} {x : Int} (h : D[j]? = some x) : (irow D).toArray[j]? = some (.int .i64 x) := by simp [irow, h]
theorem irow_set (D : List Int) (k : Nat) (d : Int) : (irow D).toArray.setIfInBounds k (.int .i64 d) = (irow (D.set k d)).toArray := by simp [irow, List.map_set]

/-- The cells of places that are left. -/
def pcells (L : List (Int × Int)) : List Value := L.flatMap fun x => [.int .i64 x.1, .int .i64 x.2]
theorem pcells_len : ∀ (L : List (Int × Int)), (pcells L).length = L.length * 2
  | [] => rfl
  | x :: L => by
    have e : pcells (x :: L) = [.int .i64 x.1, .int .i64 x.2] ++ pcells L := rfl
    rw [e, List.length_append, pcells_len L, List.length_cons]
    simp
    omega
theorem pcells_snoc (L : List (Int × Int)) (x : Int × Int) : pcells (L ++ [x]) = pcells L ++ [.int .i64 x.1, .int .i64 x.2] := by simp [pcells]
theorem placeInfo : (Try.prog.info? 64).map (fun i => (i.zero, i.size, i.bytes)) = some (some (.agg #[.int .i64 0, .int .i64 0]), 2, 16) := by kernel_rfl

/-- What depthsOf has in hand: the depths in block G, what is left in u. -/
structure Hand (w wr : World) (G : Nat) (D : List Int) (u : Value) (L : List (Int × Int)) : Prop where
  up : w.heap.size ≤ G
  row : wr.heap[G]? = some (.cells (irow D).toArray 3 (0, 0))
  own : wr.ownsRow w.heap.size 64 2 u L.length (pcells L)
  bel : Below w.heap.size w wr
theorem Hand.apart {w wr : World} {G : Nat} {D : List Int} {u : Value} {L : List (Int × Int)} (h : Hand w wr G D u L) : u.ownBlock ≠ some G := by
  intro e
  rcases h.own.2 with ⟨e2, _⟩ | ⟨g, cap, cur, e2, _, hg, _⟩
  · rw [e2] at e; simp [Value.ownBlock] at e
  · rw [e2] at e
    simp [Value.ownBlock] at e
    subst e
    rw [h.row] at hg
    simp at hg
theorem own_below {w w' : World} {B : Nat} {e : TypeId} {size : Nat} {v : Value} {n : Nat} {xs : List Value} (h : w.ownsRow B e size v n xs) (hb : Below w.heap.size w w') : w'.ownsRow B e size v n xs := by
  rcases h with ⟨h1, h2 | ⟨g, cap, cur, hv, hg, hh, r⟩⟩
  · exact ⟨h1, Or.inl h2⟩
  · exact ⟨h1, Or.inr ⟨g, cap, cur, hv, hg, by rw [hb.block g (lt_of_heap hh)]; exact hh, r⟩⟩
theorem Hand.below {w wr w' : World} {G : Nat} {D : List Int} {u : Value} {L : List (Int × Int)} (h : Hand w wr G D u L) (hb : Below wr.heap.size wr w') : Hand w w' G D u L :=
  ⟨h.up, by rw [hb.block G (lt_of_heap h.row)]; exact h.row, own_below h.own hb, h.bel.trans (hb.mono h.bel.size)⟩
theorem Hand.cell {w wr : World} {G : Nat} {D : List Int} {u : Value} {L : List (Int × Int)} (h : Hand w wr G D u L) {k : Nat} {x : Int} (hk : D[k]? = some x) : wr.cell? ⟨G, k, none⟩ = some (.int .i64 x) := by
  rw [cell_of_heap h.row]; exact irow_get hk
theorem Hand.frozen {w wr : World} {G : Nat} {D : List Int} {u : Value} {L : List (Int × Int)} (h : Hand w wr G D u L) (k : Nat) : wr.frozen? ⟨G, k, none⟩ = false := frozen_of_heap h.row
theorem Hand.put {w wr : World} {G : Nat} {D : List Int} {u : Value} {L : List (Int × Int)} (h : Hand w wr G D u L) (k : Nat) (d : Int) : Hand w (wr.setCell ⟨G, k, none⟩ (.int .i64 d)) G (D.set k d) u L :=
  ⟨h.up, by rw [setCell_eq_setRow wr _ k _ _ _ _ h.row, setRow_heap wr _ _ _ _ _ h.row, irow_set], ownsRow_setCell_other h.own h.apart _, h.bel.setCell (p := ⟨G, k, none⟩) h.up _⟩
theorem Hand.irow {w wr : World} {G : Nat} {D : List Int} {u : Value} {L : List (Int × Int)} (h : Hand w wr G D u L) : IRow wr (some ⟨G, 0, none⟩) D :=
  fun j x hj => ⟨G, 0, rfl, by rw [Nat.zero_add]; exact h.cell hj⟩
theorem Hand.form {w wr : World} {G : Nat} {D : List Int} {u : Value} {L : List (Int × Int)} (h : Hand w wr G D u L) : ∃ a cap, u = .slice a L.length cap := by
  rcases h.own.2 with ⟨rfl, e⟩ | ⟨g, cap, cur, rfl, _⟩
  · exact ⟨none, 0, by rw [e]⟩
  · exact ⟨_, _, rfl⟩
theorem Hand.pop {w wr : World} {G : Nat} {D : List Int} {u : Value} {L : List (Int × Int)} {x : Int × Int} (h : Hand w wr G D u (L ++ [x])) :
    ∃ p cap, u = .slice (some ⟨p, 0, none⟩) (L.length + 1) cap ∧ L.length + 1 ≤ cap ∧ Hand w wr G D (.slice (some ⟨p, 0, none⟩) L.length cap) L ∧ wr.cell? ⟨p, L.length * 2, none⟩ = some (.int .i64 x.1) ∧ wr.cell? ⟨p, L.length * 2 + 1, none⟩ = some (.int .i64 x.2) := by
  have hown := h.own
  rw [List.length_append, pcells_snoc] at hown
  rcases hown.2 with ⟨_, e⟩ | ⟨g, cap, cur, rfl, hb, hg, hc, _⟩
  · simp at e
  · refine ⟨g, cap, rfl, hc, ⟨h.up, h.row, ownsRow_pop (pcells_len L) hown, h.bel⟩, ?_, ?_⟩
    · have := hown.cells (g := g) rfl (L.length * 2) (.int .i64 x.1) (by rw [List.getElem?_append_right (by rw [pcells_len]; omega), pcells_len]; simp)
      rwa [addr_add] at this
    · have := hown.cells (g := g) rfl (L.length * 2 + 1) (.int .i64 x.2) (by rw [List.getElem?_append_right (by rw [pcells_len]; omega), pcells_len]; simp)
      rwa [addr_add] at this
theorem Hand.push {w wr w2 : World} {G gg cap : Nat} {D : List Int} {u : Value} {L : List (Int × Int)} {x : Int × Int} (h : Hand w wr G D u L) (hg : wr.grownBy w2 u.ownBlock)
    (hown : w2.ownsRow w.heap.size 64 2 (.slice (some ⟨gg, 0, none⟩) (L.length + 1) cap) (L.length + 1) (pcells L ++ [.int .i64 x.1, .int .i64 x.2])) : Hand w w2 G D (.slice (some ⟨gg, 0, none⟩) (L.length + 1) cap) (L ++ [x]) :=
  ⟨h.up, by rw [hg.block G (lt_of_heap h.row) (Ne.symm h.apart)]; exact h.row, by rw [List.length_append, pcells_snoc]; exact hown, h.bel.trans (below_grown hg h.bel.size (ownsRow_low h.own))⟩

theorem nil_or_snoc {α : Type} (L : List α) : L = [] ∨ ∃ L' x, L = L' ++ [x] := by
  rcases List.eq_nil_or_concat L with h | ⟨L', x, h⟩
  · exact Or.inl h
  · exact Or.inr ⟨L', x, by rw [h, List.concat_eq_append]⟩
/-- What depthsOf answers. -/
def Found (l : List Ins) (e : Ending) (w' : World) : Prop :=
  (∃ D a0 cap, Sol l D ∧ e = .returned (.tuple #[.slice a0 l.length cap, .bool true]) ∧ IRow w' a0 D) ∨ ((∀ D, ¬ Sol l D) ∧ e = .returned (.tuple #[.slice none 0 0, .bool false]))

set_option maxHeartbeats 4000000 in
set_option maxRecDepth 100000 in
theorem depthsOf_at (l : List Ins) (a0 : Option Addr) (cap : Nat) (w : World) (hrow : Row w a0 l) (hl1 : 1 ≤ l.length) (hl : l.length ≤ 100000) (hf : ∀ i ∈ l, Fine i) (hs : Stand l) :
    Calls Try.prog 25 #[.slice a0 l.length cap] w fun e w' => Found l e w' ∧ Below w.heap.size w w' := by
  obtain ⟨i0, hi0, hzz⟩ := Option.map_eq_some_iff.1 placeInfo
  simp only [Prod.mk.injEq] at hzz
  obtain ⟨hz0, hz1, hz2⟩ := hzz
  have HR : Hid _ := hrow
  have HF : Hid _ := hf
  have HS : Hid _ := hs
  clear hrow hf hs
  obtain ⟨W, hW⟩ : ∃ W, W = w.alloc (.cells #[.int .i64 (-1)] 3) := ⟨_, rfl⟩
  have hbW : Below w.heap.size w W := by rw [hW]; exact (Below.refl _ _).alloc (Nat.le_refl _) _
  have hnew : W.heap[w.heap.size]? = some (.cells #[.int .i64 (-1)] 3) := by rw [hW]; exact heap_alloc_new _ _
  have hrep := repeat_at l.length hl1 (by omega) w.heap.size 1 W (by rw [cell_of_heap hnew]; rfl)
  have hGl := hbW.size
  clear hnew
  go_enter Try.func25, Try.ntmps25
  go_wp2_with fail
  go_step3
  go_wp2_with fail
  rw [← hW]
  clear hW
  refine hrep.mono ?_
  rintro e w1 ⟨rfl, hrow1, hb1⟩
  have hbw1 := hbW.trans (hb1.mono hGl)
  have hst : Hand w (w1.alloc (.cells #[.int .i64 0, .int .i64 0] 64)) W.heap.size (List.replicate l.length (-1)) (.slice (some ⟨w1.heap.size, 0, none⟩) 1 1) [(0, 0)] :=
    ⟨hGl, by rw [Lib.alloc_old _ _ _ (lt_of_heap hrow1)]; exact hrow1, World.ownsRow_lit w1 #[.int .i64 0, .int .i64 0] 1 hbw1.size (by unfold maxLen; omega) rfl, hbw1.alloc hbw1.size _⟩
  have HST : Hid _ := hst
  clear hrep hst hrow1 hb1 hbW
  generalize W.heap.size = G at *
  go_wp2_with fail
  go_step3
  go_wp2_with fail
  go_loopg [5] (2 * l.length + 1) (fun gk v wr => ∃ (D : List Int) (L : List (Int × Int)) (u : Value), u = v ∧ 2 * unm D + L.length ≤ gk ∧ 2 * unm D + L.length ≤ 2 * l.length + 1 ∧ Hid (Search l D L) ∧ Hand w wr G D u L)
  case atStart => exact ⟨_, _, _, rfl, by simp [unm], by simp [unm], Search.start l, HST.out⟩
  case round =>
    obtain ⟨D, L, u, rfl, hgk, hgl, HI, hH⟩ := hrel
    clear HST
    rcases nil_or_snoc L with rfl | ⟨L', x, rfl⟩
    · have HD : Hid _ := HI.out.done
      obtain ⟨ua, uc, rfl⟩ := hH.form
      go_wp2
      (try rw [Exit.noGoto_ret])
      go_ret2
      exact ⟨Or.inl ⟨D, _, _, HD.out, rfl, hH.irow⟩, hH.bel⟩
    · obtain ⟨p, uc, rfl, huc, hH1, cx, cy⟩ := Hand.pop hH
      clear hH
      obtain ⟨x1, d⟩ := x
      obtain ⟨k, hxk, hk1, hk2, hk3, hk4⟩ := HI.out.todo (x1, d) (by simp)
      dsimp only at hxk hk2 hk3 hk4 cx cy
      subst hxk
      have HI1 : Hid (Search l D (((k : Nat), d) :: L')) := HI.out.perm (fun y => by simp [or_comm])
      rw [List.length_append] at hgk hgl
      simp only [List.length_cons, List.length_nil] at hgk hgl
      clear HI hk2
      have hLs : L'.length ≤ 1000000 := by omega
      have hn1 : ((L'.length : Int) + 1) - 1 = L'.length := by omega
      have HH1 : Hid _ := hH1
      clear hH1
      go_wp2_with fail
      go_quiet (fail)
      go_wp2_with fail
      go_loopg [5, 7, 8] (l.length - k) (fun gi v s7 s8 wq => ∃ (D : List Int) (L : List (Int × Int)) (u : Value) (k : Nat) (d : Int), u = v ∧ s7 = .int .i64 k ∧ s8 = .int .i64 d ∧ k ≤ l.length ∧ l.length - k ≤ gi ∧ 2 * unm D + L.length < gk ∧ 2 * unm D + L.length ≤ 2 * l.length ∧ Hid (Search l D (((k : Nat), d) :: L)) ∧ Hand w wq G D u L)
      case atStart => exact ⟨D, L', _, k, d, rfl, rfl, rfl, hk1, by omega, by omega, by omega, HI1, HH1.out.below (below_drewN (Below.refl _ _) nq)⟩
      case round =>
        clear cx cy HI1 HH1 hgk hgl hk1 hk3 hk4 huc hLs hn1
        obtain ⟨D, L, u, k, d, rfl, rfl, rfl, hk, hgi, hgo, hgl, HI, hH⟩ := hrel
        obtain ⟨hre, _, hd0, hd32⟩ := HI.out.reach
        have HRE : Hid _ := hre
        clear hre
        by_cases hlt : k < l.length
        · obtain ⟨i, hki⟩ : ∃ i, l[k]? = some i := ⟨l[k], List.getElem?_eq_getElem hlt⟩
          obtain ⟨gb, off, ea, c0, c1, c2, c3⟩ := (Row.below HR.out hH.bel) k i hki
          subst ea
          have hfi := HF.out i (List.mem_of_getElem? hki)
          obtain ⟨x, hx⟩ : ∃ x, D[k]? = some x := ⟨D[k]'(by rw [HI.out.len]; exact hlt), List.getElem?_eq_getElem _⟩
          have hcx := hH.cell hx
          have HK : Hid _ := hki
          have HX : Hid _ := hx
          clear hki hx
          by_cases hxd : x = d
          · subst hxd
            have HI2 : Hid _ := HI.out.drop HX.out
            go_wp2
            go_roundg (2 * unm D + L.length)
            case measure => omega
            case rel => exact ⟨D, L, u, rfl, Nat.le_refl _, by omega, HI2, hH⟩
          · have hxe : (x == d) = false := by simpa using hxd
            have hbeh := behind_at i d hfi.1 ⟨hd0, by omega⟩ wr
            dsimp only [insRow] at hbeh
            have HN : Hid (nxt i d ≤ 32 → 0 ≤ (mv i).1 → (mv i).1 ≤ d → 0 ≤ nxt i d) := fun _ h1 h2 => nxt_low h2 h1
            by_cases hx1 : x = -1
            · subst hx1
              by_cases hr : (mv i).1 ≤ d ∧ nxt i d ≤ 32
              · have hrb : (decide ((mv i).1 ≤ d) && decide (nxt i d ≤ 32)) = true := by simpa using hr
                have HI2 : Hid _ := HI.out.mark HS.out HX.out HK.out hr.1 hr.2
                have hn0 : 0 ≤ nxt i d := nxt_low hr.1 (HS.out i (List.mem_of_getElem? HK.out)).2
                have hn32 := hr.2
                have HU : Hid _ := unm_set HX.out (show d ≠ -1 by omega)
                have hne : ¬ G = gb := fun e => by
                  obtain ⟨gb3, off3, ea, f0, _⟩ := HR.out k i HK.out
                  cases ea
                  have := cell_lt f0
                  dsimp only at this
                  omega
                rw [hrb] at hbeh
                clear hrb hr HI HN hxd
                have HNW : Hid (news l k i d = (if i.op = 21 then [] else [(((k + 1 : Nat) : Int), nxt i d)]) ++ (if i.op = 21 ∨ i.op = 22 then [(findP l i.arg, nxt i d)] else [])) := by exact rfl
                generalize news l k i d = NW at *
                generalize nxt i d = N at *
                go_wp2_with fail
                refine hbeh.mono ?_
                rintro e w2 ⟨rfl, hb2⟩
                have hH2 := hH.below hb2
                have hcx2 := hH2.cell HX.out
                have hfx2 := hH2.frozen k
                have hH3 := hH2.put k d
                obtain ⟨gb2, off2, ea, e0, e1, e2, e3⟩ := (Row.below HR.out hH2.bel) k i HK.out
                cases ea
                obtain ⟨W3, hW3⟩ : ∃ W3, W3 = w2.setCell ⟨G, k, none⟩ (.int .i64 d) := ⟨_, rfl⟩
                rw [← hW3] at hH3
                clear hbeh hcx c0 c1 c2 c3 hb2 hH hH2
                by_cases h21 : i.op = 21
                · have hb21 : (i.op == 21) = true := by simp [h21]
                  have hwa := wrapi i.arg (fine_jump hfi (Or.inl h21)).1 (fine_jump hfi (Or.inl h21)).2
                  have hfind := find_at l i.arg (some ⟨gb, off, none⟩) cap W3 (Row.below HR.out hH3.bel) (by omega)
                  have HI3 : Hid (Search l (D.set k d) (L ++ [(findP l i.arg, N)])) := HI2.out.perm (fun y => by rw [HNW.out, if_pos h21, if_pos (Or.inl h21)]; simp [or_comm])
                  clear h21 HNW HI2
                  generalize findP l i.arg = F at *
                  go_wp2_with fail
                  rw [← hW3]
                  clear hW3 e0 e1 e2 e3 hcx2 hfx2
                  refine hfind.mono ?_
                  rintro e w4 ⟨rfl, hb4⟩
                  have hH4 := hH3.below hb4
                  have hs4 := hH4.bel.size
                  clear hfind hH3 hb4
                  go_wp2_with (at_builtin; refine wpList_append_lies _ rfl _ _ _ rfl w.heap.size 64 i0 _ 2 16 Try.underlying65 hi0 hz0 hz1 hz2 rfl (by omega) u _ _ rfl (hH4.own.alloc _) ⟨w4.heap.size, 0, none⟩ 1 1 [.int .i64 F, .int .i64 N] rfl rfl (World.news_of_block (cs := #[.int .i64 F, .int .i64 N]) (t := 64) (fr := (0, 0)) (heap_alloc_new w4 _)) (by simp [Value.oneCell']) (by omega) (by unfold maxLen; omega) (by omega) (by simp; omega) _ rfl ?_)
                  intro gg cap2 w5 hown5 hgrow hat hlt2
                  have hH5 := (hH4.below ((Below.refl _ _).alloc (Nat.le_refl _) _)).push (x := (F, N)) hgrow hown5
                  obtain ⟨gb2, off2, ea, e0, e1, e2, e3⟩ := (Row.below HR.out hH5.bel) k i HK.out
                  cases ea
                  clear hH4 hown5 hgrow hat hlt2 e1 e2 e3
                  go_wp2
                  go_roundg (2 * unm (D.set k d) + (L ++ [(F, N)]).length)
                  case measure => have := HU.out; simp; omega
                  case rel => exact ⟨_, _, _, rfl, Nat.le_refl _, by have := HU.out; simp; omega, HI3, hH5⟩
                · have hb21 : (i.op == 21) = false := by simpa using h21
                  by_cases h22 : i.op = 22
                  · have hb22 : (i.op == 22) = true := by simp [h22]
                    have hwa := wrapi i.arg (fine_jump hfi (Or.inr h22)).1 (fine_jump hfi (Or.inr h22)).2
                    have hfind := find_at l i.arg (some ⟨gb, off, none⟩) cap W3 (Row.below HR.out hH3.bel) (by omega)
                    have HI3 : Hid (Search l (D.set k d) ((((k + 1 : Nat) : Int), N) :: (L ++ [(findP l i.arg, N)]))) := HI2.out.perm (fun y => by rw [HNW.out, if_neg h21, if_pos (Or.inr h22)]; simp [or_comm, or_left_comm])
                    clear h21 h22 HNW HI2
                    generalize findP l i.arg = F at *
                    go_wp2_with fail
                    rw [← hW3]
                    clear hW3 e0 e1 e2 e3 hcx2 hfx2
                    refine hfind.mono ?_
                    rintro e w4 ⟨rfl, hb4⟩
                    have hH4 := hH3.below hb4
                    have hs4 := hH4.bel.size
                    clear hfind hH3 hb4
                    go_wp2_with (at_builtin; refine wpList_append_lies _ rfl _ _ _ rfl w.heap.size 64 i0 _ 2 16 Try.underlying65 hi0 hz0 hz1 hz2 rfl (by omega) u _ _ rfl (hH4.own.alloc _) ⟨w4.heap.size, 0, none⟩ 1 1 [.int .i64 F, .int .i64 N] rfl rfl (World.news_of_block (cs := #[.int .i64 F, .int .i64 N]) (t := 64) (fr := (0, 0)) (heap_alloc_new w4 _)) (by simp [Value.oneCell']) (by omega) (by unfold maxLen; omega) (by omega) (by simp; omega) _ rfl ?_)
                    intro gg cap2 w5 hown5 hgrow hat hlt2
                    have hH5 := (hH4.below ((Below.refl _ _).alloc (Nat.le_refl _) _)).push (x := (F, N)) hgrow hown5
                    obtain ⟨gb2, off2, ea, e0, e1, e2, e3⟩ := (Row.below HR.out hH5.bel) k i HK.out
                    cases ea
                    clear hH4 hown5 hgrow hat hlt2 e1 e2 e3
                    go_wp2
                    go_roundg (l.length - (k + 1))
                    case measure => omega
                    case rel => exact ⟨_, _, _, k + 1, N, rfl, by go_num, rfl, by omega, Nat.le_refl _, by have := HU.out; simp; omega, by have := HU.out; simp; omega, HI3, hH5⟩
                  · have hb22 : (i.op == 22) = false := by simpa using h22
                    have HI3 : Hid (Search l (D.set k d) ((((k + 1 : Nat) : Int), N) :: L)) := HI2.out.perm (fun y => by rw [HNW.out, if_neg h21, if_neg (fun h => h.elim h21 h22)]; simp)
                    clear h21 h22 HNW HI2
                    rw [hW3] at hH3
                    clear hW3
                    go_wp2
                    go_roundg (l.length - (k + 1))
                    case measure => omega
                    case rel => exact ⟨_, _, _, k + 1, N, rfl, by go_num, rfl, by omega, Nat.le_refl _, by have := HU.out; omega, by have := HU.out; omega, HI3, hH3⟩
              · have hrb : (decide ((mv i).1 ≤ d) && decide (nxt i d ≤ 32)) = false := by
                  cases h : (decide ((mv i).1 ≤ d) && decide (nxt i d ≤ 32)) with
                  | false => rfl
                  | true => exact absurd (by simpa using h) hr
                have HNO : Hid _ := Sol.no_room HRE.out HK.out hr
                rw [hrb] at hbeh
                clear hrb hr
                generalize nxt i d = N at *
                go_wp2_with fail
                refine hbeh.mono ?_
                rintro e w2 ⟨rfl, hb2⟩
                have hH2 := hH.below hb2
                have hcx2 := hH2.cell HX.out
                clear hbeh hcx
                go_wp2
                (try rw [Exit.noGoto_ret])
                go_ret2
                exact ⟨Or.inr ⟨HNO.out, rfl⟩, hH2.bel⟩
            · have HNO : Hid _ := Sol.no_two HRE.out (HI.out.marks k x HX.out hx1).1 (fun e => hxd e.symm)
              have hxn : (x != -1) = true := by simpa using hx1
              generalize (decide ((mv i).1 ≤ d) && decide (nxt i d ≤ 32)) = B at *
              generalize nxt i d = N at *
              go_wp2_with fail
              refine hbeh.mono ?_
              rintro e w2 ⟨rfl, hb2⟩
              have hH2 := hH.below hb2
              have hcx2 := hH2.cell HX.out
              clear hbeh hcx
              go_wp2
              (try rw [Exit.noGoto_ret])
              go_ret2
              exact ⟨Or.inr ⟨HNO.out, rfl⟩, hH2.bel⟩
        · obtain rfl : k = l.length := by omega
          have HNO : Hid _ := Sol.no_end HRE.out
          go_wp2
          (try rw [Exit.noGoto_ret])
          go_ret2
          exact ⟨Or.inr ⟨HNO.out, rfl⟩, hH.bel⟩
end Go.Proofs.Yteipppdkbpfkaaa
