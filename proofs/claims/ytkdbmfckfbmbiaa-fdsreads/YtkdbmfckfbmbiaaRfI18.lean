/- The reference of package fds: Close. -/
import Derived.Test.YtkdbmfckfbmbiaaRfH18
import Derived.Test.YtkdbmfckfbmbiaaFdE
namespace Go.Proofs.Ytkdbmfckfbmbiaa
open Go.RowKit
set_option linter.unusedVariables false

theorem lay5_heap {w : World} {g : Nat} {a b c d e : Value} (h : w.heap[g]? = some (.cells #[a, b, c, d, e] 30)) (x : Fl) : (lay5 w g 0 x).heap[g]? = some (.cells x.row 30) := by
  have h1 := heap_setCell_same w g 0 _ _ (.int .i64 x.kind) h
  have h2 := heap_setCell_same _ g (0 + 1) _ _ (.int .i64 x.id) h1
  have h3 := heap_setCell_same _ g (0 + 2) _ _ (.int .i64 x.off) h2
  have h4 := heap_setCell_same _ g (0 + 3) _ _ (.bool x.app) h3
  exact heap_setCell_same _ g (0 + 4) _ _ (.int .i64 x.refs) h4
theorem heap_lay5 {w : World} {g k : Nat} (h : k ≠ g) (x : Fl) : (lay5 w g 0 x).heap[k]? = w.heap[k]? :=
  (Below.heap_setCell _ ⟨g, 0 + 4, none⟩ _ _ h).trans ((Below.heap_setCell _ ⟨g, 0 + 3, none⟩ _ _ h).trans ((Below.heap_setCell _ ⟨g, 0 + 2, none⟩ _ _ h).trans ((Below.heap_setCell _ ⟨g, 0 + 1, none⟩ _ _ h).trans (Below.heap_setCell _ ⟨g, 0, none⟩ _ _ h))))
theorem size_set (w : World) (p : Addr) (v : Value) : (w.setCell p v).heap.size = w.heap.size := by simp [World.setCell]
theorem size_lay5 (w : World) (g : Nat) (x : Fl) : (lay5 w g 0 x).heap.size = w.heap.size := by
  rw [lay5, size_set, size_set, size_set, size_set, size_set]
theorem RU.new5 {B : Nat} {w w2 : World} (h : RU B w w2) {g : Nat} (hg : w.heap.size ≤ g) (hB : B ≤ w.heap.size) (x : Fl) : RU B w (lay5 w2 g 0 x) := by
  have hu := upd5 g 0 w2 x
  refine ⟨hu.os.trans h.os, hu.tape.trans h.tape, hu.output.trans h.output, Nat.le_trans h.size hu.size, fun k hk => ?_, fun k cs t fr hk h1 h2 => ?_⟩
  · rw [heap_lay5 (by omega)]
    exact h.low k hk
  · have := lt_of_heap hk
    rw [heap_lay5 (by omega)]
    exact h.other k cs t fr hk h1 h2
theorem RIs.new5 {w : World} {B c : Nat} {v : Value} {L : List En} (h : RIs w B c v L) {g : Nat} {cs : Array Value} {fr : Nat × Nat} (hg : w.heap[g]? = some (.cells cs 30 fr)) (x : Fl) : RIs (lay5 w g 0 x) B c v L := by
  refine h.keep (fun k cs' t fr' hk ht => ?_)
  rw [heap_lay5 ?_]
  · exact hk
  · rintro rfl
    rw [hg] at hk
    simp only [Option.some.injEq, Obj.cells.injEq] at hk
    rcases ht with e | e | e
    · exact absurd (hk.2.1.trans e) (by decide)
    · exact absurd (hk.2.1.trans e) (by decide)
    · exact absurd (hk.2.1.trans e) (by decide)
/-- What the boxes hold while descriptors are kept. -/
structure ClV (w V : World) (W B c : Nat) (v : Value) (L : List En) (x : Fl) : Prop where
  is : RIs V B c v L
  b1 : V.heap[w.heap.size]? = some (.cells nor 30)
  b2 : V.heap[W]? = some (.cells x.row 30)
  bel : Below w.heap.size w V
theorem filter_take {d : List Nat} {p : Nat → Bool} {k x : Nat} (h : d[k]? = some x) : (d.take (k + 1)).filter p = if p x then (d.take k).filter p ++ [x] else (d.take k).filter p := by
  obtain ⟨hl, he⟩ := List.getElem?_eq_some_iff.1 h
  rw [List.take_succ_eq_append_getElem hl, List.filter_append, he]
  cases hp : p x <;> simp [hp]
set_option maxHeartbeats 4000000 in
theorem rclose_at (B c : Nat) (v : Value) (L : List En) (S : FS) (n k : Int) (w : World) (h : RIs w B c v L) (hL : RL L S) (hI : Inv S) (hBw : B ≤ w.heap.size) :
    Calls Try.prog 15 #[.pointer (some ⟨c, 0, none⟩), .int .i64 n, .int .i64 k] w fun e w' => e = .returned (.tuple #[.agg (closeX S n k).row, .int .i64 (getE S n k)]) ∧ (∃ v' L', RIs w' B c v' L' ∧ RL L' (closeT S n k)) ∧ RU B w w' := by
  obtain ⟨W, hW⟩ : ∃ W, W = w.alloc (.cells nor 30) := ⟨_, rfl⟩
  have hbW : Below w.heap.size w W := by rw [hW]; exact below_alloc _ _
  have h1 := h.below hbW
  have HBW : Hid (Below w.heap.size w W) := hbW
  have hA := ra_at B c v L S n k W h1 hL
  have hll := hL.ll
  have hws : W.heap.size = w.heap.size + 1 := by rw [hW]; simp
  have hWn : W.heap[w.heap.size]? = some (.cells nor 30) := by rw [hW]; exact heap_alloc_new _ _
  have HWn : Hid (W.heap[w.heap.size]? = some (.cells nor 30)) := hWn
  have hcw := h.lt
  have HW : Hid _ := hW
  have HWs : Hid (W.heap.size = w.heap.size + 1) := hws
  clear hW hws hbW
  by_cases hn : nm S n k = 0
  · have z0 : W.cell? ⟨w.heap.size, 0, none⟩ = some (.int .i64 0) := by rw [cell_of_heap hWn]; rfl
    have z1 : W.cell? ⟨w.heap.size, 1, none⟩ = some (.int .i64 0) := by rw [cell_of_heap hWn]; rfl
    have z2 : W.cell? ⟨w.heap.size, 2, none⟩ = some (.int .i64 0) := by rw [cell_of_heap hWn]; rfl
    have z3 : W.cell? ⟨w.heap.size, 3, none⟩ = some (.bool false) := by rw [cell_of_heap hWn]; rfl
    have z4 : W.cell? ⟨w.heap.size, 4, none⟩ = some (.int .i64 0) := by rw [cell_of_heap hWn]; rfl
    have zf : ∀ o, W.frozen? ⟨w.heap.size, o, none⟩ = false := fun o => frozen_of_heap hWn
    have HE : Hid (getE S n k = 9) := by show _ = _; unfold getE; rw [if_pos hn]
    have HX : Hid (closeX S n k = Fl.no) := by show _ = _; unfold closeX; rw [if_pos hn]
    have HT : Hid (closeT S n k = S) := by show _ = _; unfold closeT; rw [if_pos hn]
    have HH : Hid (RIs w B c v L) := h
    have HL : Hid (RL L S) := hL
    rw [atR_no hn] at hA
    clear h h1 hn hL hll hWn HWn HWs
    go_enter Try.func15, Try.ntmps15
    go_wp2_with fail
    rw [← Hid.out HW]
    refine hA.mono ?_
    rintro e w1 ⟨rfl, hw⟩
    rw [hw]
    clear hw w1 hA HW
    generalize hV : W = V at *
    go_wp2
    have HBX : Below w.heap.size w (lay5 V w.heap.size 0 Fl.no) := below5 HBW.out (Nat.le_refl _) Fl.no
    refine bodyPost_ret (v := .tuple #[.agg nor, .int .i64 9]) ?_ rfl ⟨by rw [HE.out, HX.out]; rfl, ⟨v, L, HH.out.below HBX, by rw [HT.out]; exact HL.out⟩, RU.of_below HBX hBw⟩
    rw [results_cell_tmp rfl]; go_simp
  · obtain ⟨i, hi, hq, hi2⟩ := atR_yes hn
    obtain ⟨m, j, rfl, rfl, hm, hj, h2, h3⟩ := nm_yes hn
    obtain ⟨e, he⟩ := hL.some hq
    obtain ⟨e1, e2⟩ := hL.get he hq
    obtain ⟨g, cap, rfl, _, _, hc⟩ := h1.at he
    have hil : i < L.length := (List.getElem?_eq_some_iff.1 he).1
    have hpos := hI.pos (k := m * 6 + j) (by omega) h3
    have HE : Hid (getE S ((m : Int) + 1) j = 0) := by show _ = _; unfold getE; rw [if_neg hn]
    have HX : Hid (closeX S ((m : Int) + 1) j = e.x.re (e.x.refs - 1)) := by show _ = _; unfold closeX; rw [if_neg hn, e1]
    have hr : 0 < e.x.refs ∧ e.x.refs ≤ 48 := by rw [e1, h2]; exact hpos.2
    have HN : Hid (∀ a cap, RL (sortE (L.set i ⟨e.x, a, cap, e.d.filter (fun y => !isK ((m : Int) + 1) j y)⟩)) (closeT S ((m : Int) + 1) j)) := fun a cap => by
      have h9 := close_ref hL hI he hq (k := m * 6 + j) (by omega) h2.symm a cap
      have hf : e.d.filter (fun y => !isK ((m : Int) + 1) j y) = e.d.filter (fun y => y != m * 6 + j) := by
        apply List.filter_congr
        intro y hy
        rw [e2, mem_ks] at hy
        rw [isK_of (isP_of hm) (isD_of hj) y hy.1, key_of]
        cases hd : decide (y = m * 6 + j) <;> simp_all
      rw [hf]
      have hT : closeT S ((m : Int) + 1) j = (S.setT (m * 6 + j) 0).setF (nm S ((m : Int) + 1) j - 1) (S.f (nm S ((m : Int) + 1) j - 1)).less := by
        unfold closeT
        rw [if_neg hn, key_of]
      rw [hT]
      exact h9
    have hdl := hL.dl e (List.mem_of_getElem? he)
    have HDl : Hid (∀ y ∈ L, y.d.length ≤ 48) := hL.dl
    rw [hi] at hA
    have c0 := h1.c0
    have d0 : W.cell? ⟨g, i * 6, none⟩ = some (.int .i64 e.x.kind) := hc 0 (by omega)
    have d1 : W.cell? ⟨g, i * 6 + 1, none⟩ = some (.int .i64 e.x.id) := hc 1 (by omega)
    have d2 : W.cell? ⟨g, i * 6 + 2, none⟩ = some (.int .i64 e.x.off) := hc 2 (by omega)
    have d3 : W.cell? ⟨g, i * 6 + 3, none⟩ = some (.bool e.x.app) := hc 3 (by omega)
    have d4 : W.cell? ⟨g, i * 6 + 4, none⟩ = some (.int .i64 e.x.refs) := hc 4 (by omega)
    have hin : decide ((i : Int) < 0) = false := decide_eq_false (by omega)
    generalize hlg : L.length = ll at *
    have HLl : Hid (L.length = ll) := hlg
    have hii : (i : Int) < (ll : Int) := by omega
    have HLe : Hid (L[i]? = some e) := he
    have HH : Hid (RIs W B c (.slice (some ⟨g, 0, none⟩) ll cap) L) := h1
    obtain ⟨x, ea, ecp, ed⟩ := e
    dsimp only at *
    obtain ⟨hr0, hr1⟩ := hr
    generalize (m : Int) + 1 = pp at *
    generalize (j : Int) = fd at *
    clear h h1 hn hL hi hq he e1 e2 hc h2 h3 hpos hI hlg hWn
    go_enter Try.func15, Try.ntmps15
    go_wp2_with fail
    rw [← Hid.out HW]
    refine hA.mono ?_
    rintro e w1 ⟨rfl, hw⟩
    rw [hw]
    clear hw w1 hA HW
    go_wp2
    go_loopw [10, 11] (fun t s wr => ∃ (V : World) (q : Nat) (a : Option Addr) (nu cp : Nat), q ≤ ed.length ∧ nu ≤ q ∧ s = .int .i64 q ∧ t = .slice a nu cp ∧ Hid (((ed.take q).filter (fun y => !isK pp fd y)).length = nu) ∧ wr.ownsRow V.heap.size 77 2 (.slice a nu cp) ((ed.take q).filter (fun y => !isK pp fd y)).length (prs ((ed.take q).filter (fun y => !isK pp fd y))) ∧ Hid (ClV w V W.heap.size B c (.slice (some ⟨g, 0, none⟩) ll cap) L (x.re (x.refs - 1))) ∧ Below V.heap.size V wr) (fun _ s _ => ed.length - (intOf s).toNat)
    case atStart =>
      refine ⟨_, 0, none, 0, 0, Nat.zero_le _, Nat.le_refl _, rfl, rfl, (show Hid _ from rfl), World.ownsRow_nil _ _ _ _, ?_, Below.refl _ _⟩
      exact ⟨HH.out.below (below_alloc _ _), (Below.block (below_alloc W _) _ (by rw [HWs.out]; omega)).trans HWn.out, heap_alloc_new _ _, HBW.out.trans ((below_alloc W _).mono HBW.out.size)⟩
    case round =>
      clear c0 d0 d1 d2 d3 d4
      obtain ⟨V, q, a, nu, cp, hq, hnu, rfl, rfl, HNu, hown, HV, hb⟩ := hrel
      have hR := HV.out.is.below hb
      have c0 := hR.c0
      obtain ⟨g', cap', e1, _, ⟨cs, hcs⟩, hc⟩ := hR.at HLe.out
      simp only [Value.slice.injEq, Option.some.injEq, Addr.mk.injEq] at e1
      obtain ⟨⟨rfl, -⟩, -, rfl⟩ := e1
      have d5 : wr.cell? ⟨g, i * 6 + 5, none⟩ = some (.slice ea ed.length ecp) := hc 5 (by omega)
      obtain ⟨hrd, hcp⟩ := hR.rd _ (List.mem_of_getElem? HLe.out)
      dsimp only at hrd hcp
      have HB : Hid (Below V.heap.size V wr) := hb
      have HO : Hid (wr.ownsRow V.heap.size 77 2 (.slice a nu cp) ((ed.take q).filter (fun y => !isK pp fd y)).length (prs ((ed.take q).filter (fun y => !isK pp fd y)))) := hown
      have HRw : Hid (RIs wr B c (.slice (some ⟨g, 0, none⟩) ll cap) L) := hR
      by_cases hlt : q < ed.length
      · obtain ⟨y, hy⟩ : ∃ y, ed[q]? = some y := ⟨ed[q], List.getElem?_eq_getElem _⟩
        obtain ⟨gd, rfl, _, p0, p1⟩ := hrd q y hy
        have hqi : (q : Int) < (ed.length : Int) := by omega
        have hpe := pair_ne ((y / 6 + 1 : Nat) : Int) ((y % 6 : Nat) : Int) pp fd
        rw [isK_def] at hpe
        have HFt : Hid _ := filter_take (p := fun y => !isK pp fd y) hy
        have hpush := fun xa xb ha hb' => pushP hown HNu.out hb.size y xa xb ha hb' (by omega)
        obtain ⟨xa, hxa⟩ : ∃ xa : Int, ((y / 6 + 1 : Nat) : Int) = xa := ⟨_, rfl⟩
        obtain ⟨xb, hxb⟩ : ∃ xb : Int, ((y % 6 : Nat) : Int) = xb := ⟨_, rfl⟩
        obtain ⟨a', c', w', hrun, hown', hbel'⟩ := hpush xa xb hxa hxb
        rw [hxa, hxb] at hpe
        rw [hxa] at p0
        rw [hxb] at p1
        have HO' : Hid _ := hown'
        have HB' : Hid (Below V.heap.size V w') := hb.trans hbel'
        have HRun : Hid _ := hrun
        generalize ed.length = dn at *
        cases hbk : isK pp fd y with
        | true =>
          rw [hbk] at hpe
          have HF2 : Hid ((ed.take (q + 1)).filter (fun y => !isK pp fd y) = (ed.take q).filter (fun y => !isK pp fd y)) := by show _ = _; rw [HFt.out, hbk]; rfl
          clear hR hc hcs hrd hcp hown hb hy hpush hrun hown' hbel' hxa hxb HRun HO' HB' HFt hbk
          go_wp2
          go_roundw
          case rel => exact ⟨V, q + 1, a, nu, cp, by omega, by omega, by go_num, rfl, by show _ = _; rw [HF2.out]; exact HNu.out, by rw [HF2.out]; exact HO.out, HV, HB.out⟩
          case measure => simp [intOf]; omega
        | false =>
          rw [hbk] at hpe
          have HF2 : Hid ((ed.take (q + 1)).filter (fun y => !isK pp fd y) = (ed.take q).filter (fun y => !isK pp fd y) ++ [y]) := by show _ = _; rw [HFt.out, hbk]; rfl
          clear hR hc hcs hrd hcp hown hb hy hpush hrun hown' hbel' hxa hxb HFt hbk HO HB
          go_wp2_with (at_builtin; refine wpList_append_eq rfl _ _ _ rfl _ _ _ rfl rfl HRun.out ?_)
          go_roundw
          case rel => exact ⟨V, q + 1, a', nu + 1, c', by omega, by omega, by go_num, rfl, by show _ = _; rw [HF2.out, List.length_append, HNu.out]; rfl, by rw [HF2.out]; exact HO'.out, HV, HB'.out⟩
          case measure => simp [intOf]; omega
      · have hqe : q = ed.length := by omega
        have hkk : decide ((q : Int) < (ed.length : Int)) = false := decide_eq_false (by omega)
        obtain ⟨o1, o2, o3⟩ := own_PRd hown
        have hset := hR.cell_set (i := i) (m := 5) (e := ⟨x, ea, ecp, ed⟩) (e' := ⟨x, a, cp, (ed.take q).filter (fun y => !isK pp fd y)⟩) rfl HLe.out (by omega) (.slice a nu cp) (by show Value.slice _ _ _ = _; rw [← o3]) (fun j hj hne => by
          obtain rfl | rfl | rfl | rfl | rfl : j = 0 ∨ j = 1 ∨ j = 2 ∨ j = 3 ∨ j = 4 := by omega
          all_goals rfl) ⟨o1, o2⟩ (i * 6 + 5) rfl
        dsimp only at hset
        obtain ⟨hs1, hs2⟩ := hset
        have htk : ed.take q = ed := List.take_of_length_le (by omega)
        rw [htk] at hs1
        have hcV : w.heap.size ≤ V.heap.size := HV.out.bel.size
        have hBV : B ≤ (wr.setCell ⟨g, i * 6 + 5, none⟩ (.slice a nu cp)).heap.size := by have := hs2.size; have := hb.size; omega
        have hSo := rsort_at B c _ _ _ hs1 hBV (by rw [List.length_set]; have := HLl.out; omega) (fun y hy => by
          rcases List.mem_or_eq_of_mem_set hy with hy | rfl
          · have := HDl.out y hy; omega
          · have := List.length_filter_le (fun y => !isK pp fd y) ed
            dsimp only
            omega)
        have f5 : wr.frozen? ⟨g, i * 6 + 5, none⟩ = false := frozen_of_heap hcs
        have HS1 : Hid _ := hs1
        have HS2 : Hid _ := hs2
        have hgc : w.heap.size ≠ g ∧ W.heap.size ≠ g := by
          constructor
          · rintro rfl
            rw [(hb.block _ (lt_of_heap HV.out.b1)).trans HV.out.b1] at hcs
            simp only [Option.some.injEq, Obj.cells.injEq] at hcs
            exact absurd hcs.2.1 (by decide)
          · rintro rfl
            rw [(hb.block _ (lt_of_heap HV.out.b2)).trans HV.out.b2] at hcs
            simp only [Option.some.injEq, Obj.cells.injEq] at hcs
            exact absurd hcs.2.1 (by decide)
        have hb1 : (wr.setCell ⟨g, i * 6 + 5, none⟩ (.slice a nu cp)).heap[w.heap.size]? = some (.cells nor 30) := (Below.heap_setCell _ _ _ _ hgc.1).trans ((hb.block _ (lt_of_heap HV.out.b1)).trans HV.out.b1)
        have hb2 : (wr.setCell ⟨g, i * 6 + 5, none⟩ (.slice a nu cp)).heap[W.heap.size]? = some (.cells (x.re (x.refs - 1)).row 30) := (Below.heap_setCell _ _ _ _ hgc.2).trans ((hb.block _ (lt_of_heap HV.out.b2)).trans HV.out.b2)
        have HB1 : Hid _ := hb1
        have HB2 : Hid _ := hb2
        clear hR hc hcs hrd hcp hown hb o1 o2 o3 hs1 hs2 htk hqe hgc hb1 hb2 HO HRw
        go_wp2_with fail
        refine hSo.mono ?_
        rintro e2 w2 ⟨rfl, ⟨v', hR2⟩, hu⟩
        have hnc : w.heap.size ≠ c := by omega
        have hnc2 : W.heap.size ≠ c := by have := HWs.out; omega
        have hx1 := (hu.block _ (lt_of_heap HB1.out) hnc).trans HB1.out
        have hx2 := (hu.block _ (lt_of_heap HB2.out) hnc2).trans HB2.out
        have hru : RU B w w2 := (RU.of_below (HV.out.bel.trans (HB.out.mono hcV)) hBw).trans (HS2.out.trans (RU.upd hu HS1.out.head HS1.out.cB hBV))
        have HRU : Hid (RU B w w2) := hru
        have HR2 : Hid _ := hR2
        have x0 : w2.cell? ⟨W.heap.size, 0, none⟩ = some (.int .i64 x.kind) := by rw [cell_of_heap hx2]; rfl
        have x1 : w2.cell? ⟨W.heap.size, 1, none⟩ = some (.int .i64 x.id) := by rw [cell_of_heap hx2]; rfl
        have x2 : w2.cell? ⟨W.heap.size, 2, none⟩ = some (.int .i64 x.off) := by rw [cell_of_heap hx2]; rfl
        have x3 : w2.cell? ⟨W.heap.size, 3, none⟩ = some (.bool x.app) := by rw [cell_of_heap hx2]; rfl
        have x4 : w2.cell? ⟨W.heap.size, 4, none⟩ = some (.int .i64 (x.refs - 1)) := by rw [cell_of_heap hx2]; rfl
        have z0 : w2.cell? ⟨w.heap.size, 0, none⟩ = some (.int .i64 0) := by rw [cell_of_heap hx1]; rfl
        have z1 : w2.cell? ⟨w.heap.size, 1, none⟩ = some (.int .i64 0) := by rw [cell_of_heap hx1]; rfl
        have z2 : w2.cell? ⟨w.heap.size, 2, none⟩ = some (.int .i64 0) := by rw [cell_of_heap hx1]; rfl
        have z3 : w2.cell? ⟨w.heap.size, 3, none⟩ = some (.bool false) := by rw [cell_of_heap hx1]; rfl
        have z4 : w2.cell? ⟨w.heap.size, 4, none⟩ = some (.int .i64 0) := by rw [cell_of_heap hx1]; rfl
        have zf : ∀ o, w2.frozen? ⟨w.heap.size, o, none⟩ = false := fun o => frozen_of_heap hx1
        have HX1 : Hid (w2.heap[w.heap.size]? = some (.cells nor 30)) := hx1
        have hwW : W.heap.size ≠ w.heap.size := by have := HWs.out; omega
        clear hx1 hx2 hru hR2 hu hSo HB HB1 HB2 HS1 HS2 c0 d5 f5
        go_wp2
        refine bodyPost_ret (v := .tuple #[.agg (x.re (x.refs - 1)).row, .int .i64 0]) ?_ rfl ⟨by rw [HE.out, HX.out], ⟨v', _, HR2.out.new5 HX1.out (x.re (x.refs - 1)), HN.out _ _⟩, HRU.out.new5 (Nat.le_refl _) hBw (x.re (x.refs - 1))⟩
        rw [results_cell_tmp rfl]; go_simp; first | done | exact ⟨rfl, rfl, rfl, rfl, rfl⟩
end Go.Proofs.Ytkdbmfckfbmbiaa
