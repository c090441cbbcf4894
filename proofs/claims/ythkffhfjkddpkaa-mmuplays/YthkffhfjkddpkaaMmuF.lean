/- The contract of the library's DeleteFunc over a TLB's row, as Drop asks it; and Drop. -/
import Derived.Test.YthkffhfjkddpkaaMmuE
namespace Go.Proofs.Ythkffhfjkddpkaa
open Go.RowKit
set_option linter.unusedVariables false

/-- 'clear' of a part of a block of cells, of elements of several cells: the cells beside it stay. -/
theorem run_clear_wide {P : Program} (w : World) (t ty elem : TypeId) (g o n cap : Nat) (cur : Array Value) (et : TypeId) (z : Value) (size : Nat) (hu : P.underlying t = some (.slice elem))
    (hz : (P.info? elem).map (fun i => i.zero) = some (some z)) (hsz : z.cells.size = size) (h0 : 0 < size) (h1 : ∀ v ∈ z.cells.toList, v.oneCell' = true)
    (hg : w.heap[g]? = some (.cells cur et (0, 0))) (hn : 0 < n) (hfit : o + n * size ≤ cur.size) :
    ∃ cur', (Builtin.clear_ #[t] ty #[.slice (some ⟨g, o, none⟩) n cap]).run P w = .ok (.tuple #[]) (w.setRow g cur') ∧ cur'.size = cur.size ∧ ∀ x, x < o → cur'[x]? = cur[x]? := by
  obtain ⟨i, hi, hzz⟩ := Option.map_eq_some_iff.1 hz
  have hlen : (Builtin.zeroCells z.cells n).toList.length = n * size := by simp [Builtin.zeroCells, hsz]
  have hone : ∀ v ∈ (Builtin.zeroCells z.cells n).toList, v.oneCell' = true := by
    intro v hv
    simp [Builtin.zeroCells] at hv
    obtain ⟨a, ha, rfl⟩ := hv
    have hlt : a % z.cells.size < z.cells.size := Nat.mod_lt _ (by omega)
    rw [getElem!_pos z.cells _ hlt]
    exact h1 _ (by simp)
  have hst := run_storeCells_at P g o et (Builtin.zeroCells z.cells n).toList 0 cur w hg (by rw [hlen]; omega) hone
  obtain ⟨m, rfl⟩ : ∃ m, n = m + 1 := ⟨n - 1, by omega⟩
  rw [hlen] at hst
  simp only [Nat.add_zero] at hst
  refine ⟨(cur.toList.take o ++ (Builtin.zeroCells z.cells (m + 1)).toList ++ cur.toList.drop (o + (m + 1) * size)).toArray, ?_, ?_, ?_⟩
  · simp [Builtin.clear_, run_underlying hu, zeroValue, typeInfo, hi, hzz, hst]
  · simp [hlen]; omega
  · intro x hx
    rw [List.getElem?_toArray, List.append_assoc, List.getElem?_append_left (by simp; omega), List.getElem?_take_of_lt hx]
    simp

/-- Three cells stored in a row. -/
def cur3 (cur : Array Value) (o : Nat) (x y z : Value) : Array Value := ((cur.setIfInBounds o x).setIfInBounds (o + 1) y).setIfInBounds (o + 2) z

theorem put3 {w : World} {g : Nat} {cur : Array Value} {t : TypeId} (h : w.heap[g]? = some (.cells cur t (0, 0))) (o : Nat) (x y z : Value) :
    (((w.setCell ⟨g, o, none⟩ x).setCell ⟨g, o + 1, none⟩ y).setCell ⟨g, o + 2, none⟩ z).heap[g]? = some (.cells (cur3 cur o x y z) t (0, 0)) := by
  have a1 : (w.setCell ⟨g, o, none⟩ x).heap[g]? = some (.cells (cur.setIfInBounds o x) t (0, 0)) := by rw [setCell_eq_setRow w g o _ _ _ _ h, setRow_heap w g _ _ _ _ h]
  have a2 : ((w.setCell ⟨g, o, none⟩ x).setCell ⟨g, o + 1, none⟩ y).heap[g]? = some (.cells ((cur.setIfInBounds o x).setIfInBounds (o + 1) y) t (0, 0)) := by rw [setCell_eq_setRow _ g (o + 1) _ _ _ _ a1, setRow_heap _ g _ _ _ _ a1]
  rw [setCell_eq_setRow _ g (o + 2) _ _ _ _ a2, setRow_heap _ g _ _ _ _ a2]
  rfl
theorem cur3_size (cur : Array Value) (o : Nat) (x y z : Value) : (cur3 cur o x y z).size = cur.size := by simp [cur3]
theorem cur3_out (cur : Array Value) (o : Nat) (x y z : Value) (k : Nat) (h : k < o ∨ o + 2 < k) : (cur3 cur o x y z)[k]? = cur[k]? := by
  simp only [cur3, Array.getElem?_setIfInBounds]
  rw [if_neg (by omega), if_neg (by omega), if_neg (by omega)]
theorem cur3_in (cur : Array Value) (o : Nat) (x y z : Value) (h : o + 2 < cur.size) : (cur3 cur o x y z)[o]? = some x ∧ (cur3 cur o x y z)[o + 1]? = some y ∧ (cur3 cur o x y z)[o + 2]? = some z := by
  simp only [cur3, Array.getElem?_setIfInBounds, Array.size_setIfInBounds]
  refine ⟨?_, ?_, ?_⟩
  · rw [if_neg (by omega), if_neg (by omega), if_pos trivial, if_pos (by omega)]
  · rw [if_neg (by omega), if_pos trivial, if_pos (by omega)]
  · rw [if_pos trivial, if_pos (by omega)]

/-- The cells of cur say what ks says, place by place. -/
def Pts (cur : Array Value) (ks : List (Int × Int × Bool)) : Prop :=
  ∀ i e, ks[i]? = some e → cur[i * 3]? = some (.int .i64 e.1) ∧ cur[i * 3 + 1]? = some (.int .i64 e.2.1) ∧ cur[i * 3 + 2]? = some (.bool e.2.2)

theorem flat_of_pts (l : List Value) (ks : List (Int × Int × Bool)) (h : ∀ i e, ks[i]? = some e → l[i * 3]? = some (.int .i64 e.1) ∧ l[i * 3 + 1]? = some (.int .i64 e.2.1) ∧ l[i * 3 + 2]? = some (.bool e.2.2)) : l.take (ks.length * 3) = flat ks := by
  induction ks generalizing l with
  | nil => simp [flat]
  | cons e r ih =>
    obtain ⟨h0, h1, h2⟩ := h 0 e rfl
    match l, h0, h1, h2 with
    | a :: b :: c :: l', h0, h1, h2 =>
      simp at h0 h1 h2
      have := ih l' (fun i d hd => by
        have := h (i + 1) d (by simpa using hd)
        have e0 : (i + 1) * 3 = i * 3 + 1 + 1 + 1 := by omega
        rw [e0] at this
        simpa using this)
      have e1 : (e :: r).length * 3 = r.length * 3 + 1 + 1 + 1 := by simp; omega
      rw [e1]
      simp [flat, h0, h1, h2] at this ⊢
      exact this
    | [], h0, h1, h2 => simp at h0
    | [_], h0, h1, h2 => simp at h1
    | [_, _], h0, h1, h2 => simp at h2
theorem Pts.flat {cur : Array Value} {ks : List (Int × Int × Bool)} (h : Pts cur ks) : cur.toList.take (ks.length * 3) = flat ks :=
  flat_of_pts _ _ (fun i e he => by simpa using h i e he)
theorem Pts.of_flat {cur : Array Value} {ks : List (Int × Int × Bool)} (h : cur.toList.take (ks.length * 3) = Go.Proofs.Ythkffhfjkddpkaa.flat ks) : Pts cur ks := fun i e he => cur_get h he
theorem Pts.sub {cur cur' : Array Value} {ks : List (Int × Int × Bool)} (h : Pts cur ks) (hs : ∀ x, x < ks.length * 3 → cur'[x]? = cur[x]?) : Pts cur' ks := by
  intro i e he
  have hi : i < ks.length := (List.getElem?_eq_some_iff.1 he).1
  rw [hs (i * 3) (by omega), hs (i * 3 + 1) (by omega), hs (i * 3 + 2) (by omega)]
  exact h i e he
theorem Pts.take {cur : Array Value} {ks : List (Int × Int × Bool)} (h : Pts cur ks) (k : Nat) : Pts cur (ks.take k) := by
  intro i e he
  rw [List.getElem?_take] at he
  split at he
  · exact h i e he
  · cases he
theorem Pts.snoc {cur : Array Value} {ks : List (Int × Int × Bool)} (h : Pts cur ks) (e : Int × Int × Bool) (hs : ks.length * 3 + 2 < cur.size) : Pts (cur3 cur (ks.length * 3) (.int .i64 e.1) (.int .i64 e.2.1) (.bool e.2.2)) (ks ++ [e]) := by
  intro i d hd
  by_cases hi : i < ks.length
  · rw [List.getElem?_append_left hi] at hd
    rw [cur3_out _ _ _ _ _ _ (by omega), cur3_out _ _ _ _ _ _ (by omega), cur3_out _ _ _ _ _ _ (by omega)]
    exact h i d hd
  · rw [List.getElem?_append_right (by omega)] at hd
    have hik : i = ks.length := by
      have := (List.getElem?_eq_some_iff.1 hd).1
      simp at this; omega
    subst hik
    simp at hd
    subst hd
    exact cur3_in _ _ _ _ _ hs

/-- Without page p. -/
def filt (ks : List (Int × Int × Bool)) (p : Int) : List (Int × Int × Bool) := ks.filter (fun e => e.1 != p)
theorem filt_id {ks : List (Int × Int × Bool)} {p : Int} {k : Nat} (h : noneTo ks p k) : filt (ks.take k) p = ks.take k := by
  unfold filt
  rw [List.filter_eq_self]
  intro e he
  obtain ⟨i, hi⟩ := List.getElem?_of_mem he
  rw [List.getElem?_take] at hi
  split at hi
  · rename_i hik
    simpa using h i e hik hi
  · cases hi
theorem filt_hit {ks : List (Int × Int × Bool)} {p : Int} {k : Nat} {e : Int × Int × Bool} (he : ks[k]? = some e) (hp : e.1 = p) : filt (ks.take (k + 1)) p = filt (ks.take k) p := by
  unfold filt
  rw [List.take_add_one, he]
  simp [hp]
theorem filt_miss {ks : List (Int × Int × Bool)} {p : Int} {k : Nat} {e : Int × Int × Bool} (he : ks[k]? = some e) (hp : e.1 ≠ p) : filt (ks.take (k + 1)) p = filt (ks.take k) p ++ [e] := by
  unfold filt
  rw [List.take_add_one, he]
  simp [hp]
theorem filt_le (ks : List (Int × Int × Bool)) (p : Int) : (filt ks p).length ≤ ks.length := List.length_filter_le _ _

theorem keptZero : (Try.prog.info? 79).map (fun i => i.zero) = some (some (.agg #[.int .i64 0, .int .i64 0, .bool false])) := by kernel_rfl

/-- What is known in the loop of DeleteFunc: i are kept, j are looked at. -/
structure Deleting (w wr : World) (g pb cap : Nat) (ks : List (Int × Int × Bool)) (p : Int) (i j : Nat) (cur cur' : Array Value) : Prop where
  at_ : wr.heap[g]? = some (.cells cur' 79 (0, 0))
  page : wr.heap[pb]? = some (.cells #[.int .i64 p] 3)
  size : cur'.size = cap * 3
  have_ : i = (filt (ks.take j) p).length
  lt : i < j
  le : j ≤ ks.length
  pts : Pts cur' (filt (ks.take j) p)
  rest : ∀ x, j * 3 ≤ x → cur'[x]? = cur[x]?
  upd : Upd g w wr

set_option maxHeartbeats 2000000 in
theorem delete_any (g cap : Nat) (cur : Array Value) (ks : List (Int × Int × Bool)) (pb : Nat) (p : Int) (w : World) (hh : w.heap[g]? = some (.cells cur 79 (0, 0))) (hcap : ks.length ≤ cap) (hcs : cur.size = cap * 3)
    (hpt : Pts cur ks) (hn : ks.length ≤ 3) (hp : w.heap[pb]? = some (.cells #[.int .i64 p] 3)) (hne : g ≠ pb) (hcl : cap ≤ maxLen) :
    Calls Try.prog 34 #[.slice (some ⟨g, 0, none⟩) ks.length cap, dropF pb] w fun o w' =>
      ∃ cur', o = .returned (.slice (some ⟨g, 0, none⟩) (filt ks p).length cap) ∧ w'.heap[g]? = some (.cells cur' 79 (0, 0)) ∧ cur'.size = cap * 3 ∧ Pts cur' (filt ks p) ∧ Upd g w w' := by
  have hidx := index_any (some ⟨g, 0, none⟩) cap ks pb p w (fun _ => ⟨g, cur, rfl, hh, hcap, hcs, hpt.flat⟩) hn hp
  unfold dropF at hidx ⊢
  unfold maxLen at hcl
  go_enter Try.func34, Try.ntmps34
  go_wp2_with fail
  refine hidx.mono ?_
  rintro o w1 ⟨⟨rfl, hno⟩ | ⟨k, e, rfl, hno, he, hpe⟩, hb1⟩
  · have hF : filt ks p = ks := by have := filt_id hno; rwa [List.take_length] at this
    have HH : Hid _ := (hb1.block g (lt_of_heap hh)).trans hh
    clear hh
    go_wp2
    go_ret
    rw [hF]
    exact ⟨cur, rfl, HH.out, hcs, hpt, Upd.of_below hb1⟩
  · have hk : k < ks.length := (List.getElem?_eq_some_iff.1 he).1
    have hD : Deleting w w1 g pb cap ks p k (k + 1) cur cur := by
      have e1 : filt (ks.take (k + 1)) p = ks.take k := (filt_hit he hpe).trans (filt_id hno)
      exact ⟨(hb1.block g (lt_of_heap hh)).trans hh, (hb1.block pb (lt_of_heap hp)).trans hp, hcs, by rw [e1]; simp; omega, by omega, by omega, by rw [e1]; exact hpt.take k, fun _ _ => rfl, Upd.of_below hb1⟩
    clear hh hp hb1 hno he hpe hidx
    go_wp2
    go_loopw [5, 6] (fun a b wr => ∃ (i j : Nat) (cur' : Array Value), a = .int .i64 i ∧ b = .int .i64 j ∧ Deleting w wr g pb cap ks p i j cur cur') (fun _ b _ => ks.length - (intOf b).toNat)
    case atStart => exact ⟨k, k + 1, cur, rfl, by go_num, hD⟩
    case round =>
      clear hD
      obtain ⟨i, j, cur', rfl, rfl, hD⟩ := hrel
      obtain ⟨h1, h2, h3, h4', h5, h6, h7, h8, h9⟩ := hD
      have H4 : Hid _ := h4'
      clear h4'
      by_cases hlj : j < ks.length
      · have he := List.getElem?_eq_getElem hlj
        obtain ⟨c0, c1, c2⟩ := hpt j _ he
        have d0 : wr.cell? ⟨g, j * 3, none⟩ = some (.int .i64 ks[j].1) := by rw [cell_of_heap h1, h8 _ (by omega)]; exact c0
        have d1 : wr.cell? ⟨g, j * 3 + 1, none⟩ = some (.int .i64 ks[j].2.1) := by rw [cell_of_heap h1, h8 _ (by omega)]; exact c1
        have d2 : wr.cell? ⟨g, j * 3 + 2, none⟩ = some (.bool ks[j].2.2) := by rw [cell_of_heap h1, h8 _ (by omega)]; exact c2
        generalize ks[j] = e at he d0 d1 d2
        have hint : (j : Int) < (ks.length : Int) := by omega
        have hint2 : (i : Int) < (ks.length : Int) := by omega
        have hgl := lt_of_heap h1
        have hpl := lt_of_heap h2
        obtain ⟨W, hW⟩ : ∃ W, W = wr.alloc (.cells #[.int .i64 e.1, .int .i64 e.2.1, .bool e.2.2] 79) := ⟨_, rfl⟩
        have hWp : W.heap[pb]? = some (.cells #[.int .i64 p] 3) := by rw [hW, Below.heap_alloc _ _ _ hpl]; exact h2
        have hWg : W.heap[g]? = some (.cells cur' 79 (0, 0)) := by rw [hW, Below.heap_alloc _ _ _ hgl]; exact h1
        have hWb : W.heap[wr.heap.size]? = some (.cells #[.int .i64 e.1, .int .i64 e.2.1, .bool e.2.2] 79 (0, 0)) := by rw [hW]; exact heap_alloc_new _ _
        have hWu : Upd g w W := by rw [hW]; exact h9.trans (Upd.alloc g _ _)
        have hcl := drop1_any e pb p W hWp
        clear c0 c1 c2
        by_cases hpe : e.1 = p
        · have hq : (e.1 == p) = true := by simpa using hpe
          rw [hq, hW] at hcl
          have HP : Hid _ := hpe
          have H1 : Hid _ := hWg
          have H2 : Hid _ := hWp
          have H3 : Hid _ := hWb
          clear hpe hq hWg hWp hWb h1 h2
          go_wp2_with fail
          refine hcl.mono ?_
          rintro o w2 ⟨rfl, hb2⟩
          rw [← hW] at hb2
          have hW2 : Deleting w w2 g pb cap ks p i (j + 1) cur cur' := by
            have e1 := filt_hit he HP.out
            exact ⟨(hb2.block g (lt_of_heap H1.out)).trans H1.out, (hb2.block pb (lt_of_heap H2.out)).trans H2.out, h3, by rw [e1]; exact H4.out, by omega, by omega, by rw [e1]; exact h7, fun x hx => h8 x (by omega), hWu.trans (Upd.of_below hb2)⟩
          go_wp2
          go_roundw
          case rel =>
            repeat apply Exists.intro
            refine And.intro ?_ rfl
            exact ⟨i, j + 1, cur', rfl, by go_num, hW2⟩
          case measure => simp [intOf]; omega
        · have hq : (e.1 == p) = false := by simpa using hpe
          rw [hq, hW] at hcl
          have HP : Hid _ := hpe
          have H1 : Hid _ := hWg
          have H2 : Hid _ := hWp
          have H3 : Hid _ := hWb
          clear hpe hq hWg hWp hWb h1 h2
          go_wp2_with fail
          refine hcl.mono ?_
          rintro o w2 ⟨rfl, hb2⟩
          rw [← hW] at hb2
          have f0 : w2.heap[wr.heap.size]? = _ := (hb2.block _ (lt_of_heap H3.out)).trans H3.out
          have f1 : w2.heap[g]? = _ := (hb2.block _ (lt_of_heap H1.out)).trans H1.out
          have g0 : w2.cell? ⟨wr.heap.size, 0, none⟩ = some (.int .i64 e.1) := by rw [cell_of_heap f0]; rfl
          have g1 : w2.cell? ⟨wr.heap.size, 1, none⟩ = some (.int .i64 e.2.1) := by rw [cell_of_heap f0]; rfl
          have g2 : w2.cell? ⟨wr.heap.size, 2, none⟩ = some (.bool e.2.2) := by rw [cell_of_heap f0]; rfl
          obtain ⟨q0, hq0⟩ : ∃ q, w2.cell? ⟨g, i * 3, none⟩ = some q := by rw [cell_of_heap f1]; exact ⟨_, Array.getElem?_eq_getElem (by omega)⟩
          obtain ⟨q1, hq1⟩ : ∃ q, w2.cell? ⟨g, i * 3 + 1, none⟩ = some q := by rw [cell_of_heap f1]; exact ⟨_, Array.getElem?_eq_getElem (by omega)⟩
          obtain ⟨q2, hq2⟩ : ∃ q, w2.cell? ⟨g, i * 3 + 2, none⟩ = some q := by rw [cell_of_heap f1]; exact ⟨_, Array.getElem?_eq_getElem (by omega)⟩
          have z0 : w2.frozen? ⟨g, i * 3, none⟩ = false := frozen_of_heap f1
          have z1 : w2.frozen? ⟨g, i * 3 + 1, none⟩ = false := frozen_of_heap f1
          have z2 : w2.frozen? ⟨g, i * 3 + 2, none⟩ = false := frozen_of_heap f1
          have hW2 : Deleting w (((w2.setCell ⟨g, i * 3, none⟩ (.int .i64 e.1)).setCell ⟨g, i * 3 + 1, none⟩ (.int .i64 e.2.1)).setCell ⟨g, i * 3 + 2, none⟩ (.bool e.2.2)) g pb cap ks p (i + 1) (j + 1) cur (cur3 cur' (i * 3) (.int .i64 e.1) (.int .i64 e.2.1) (.bool e.2.2)) := by
            have e1 := filt_miss he HP.out
            refine ⟨put3 f1 _ _ _ _, ?_, by rw [cur3_size]; exact h3, by rw [e1]; simp; exact H4.out, by omega, by omega, ?_, fun x hx => ?_, hWu.trans ((Upd.of_below hb2).trans (((Upd.setCell g _ _ _).trans (Upd.setCell g _ _ _)).trans (Upd.setCell g _ _ _)))⟩
            · rw [Below.heap_setCell _ _ _ _ (Ne.symm hne), Below.heap_setCell _ _ _ _ (Ne.symm hne), Below.heap_setCell _ _ _ _ (Ne.symm hne)]
              exact (hb2.block pb (lt_of_heap H2.out)).trans H2.out
            · have h4 := H4.out
              rw [e1, h4]
              exact h7.snoc e (by omega)
            · rw [cur3_out _ _ _ _ _ _ (by omega)]
              exact h8 x (by omega)
          have HW : Hid _ := hW2
          clear f0 f1 hW2
          go_wp2
          go_roundw
          case rel =>
            repeat apply Exists.intro
            refine And.intro ?_ rfl
            exact ⟨i + 1, j + 1, _, by go_num, by go_num, HW.out⟩
          case measure => simp [intOf]; omega
      · have hj : j = ks.length := by omega
        subst hj
        have hik : i < ks.length := h5
        have h4 := H4.out
        rw [List.take_length] at h4 h7
        have H5 : Hid _ := h4
        clear h4 H4
        have hint2 : (i : Int) ≤ (ks.length : Int) := by omega
        obtain ⟨cur2, hclr, hs2, hx2⟩ := run_clear_wide (P := Try.prog) wr 68 0 79 g (i * 3) (ks.length - i) (cap - i) cur' 79 _ 3 Try.underlying68 keptZero rfl (by omega) (by simp [Value.cells, Value.oneCell']) h1 (by omega) (by rw [h3]; omega)
        have hcc : (i : Int) ≤ (cap : Int) := by omega
        have HU : Hid _ := h9
        have H1 : Hid _ := h1
        have HC : Hid _ := hx2
        clear h1 h2 h9 hx2
        go_wp2
        go_ret
        have h4 := H5.out
        refine ⟨cur2, by rw [← h4]; rfl, setRow_heap _ _ _ _ _ _ H1.out, by rw [hs2]; exact h3, h7.sub (fun x hx => HC.out x (by omega)), (HU.out).trans (Upd.setRow _ _ _)⟩

set_option maxHeartbeats 400000 in
theorem delete_nil (pb : Nat) (p : Int) (w : World) (hp : w.heap[pb]? = some (.cells #[.int .i64 p] 3)) :
    Calls Try.prog 34 #[.slice none 0 0, dropF pb] w fun o w' => o = .returned (.slice none 0 0) ∧ Below w.heap.size w w' := by
  have hidx := index_any none 0 [] pb p w (fun h => absurd rfl h) (by simp) hp
  unfold dropF at hidx ⊢
  go_enter Try.func34, Try.ntmps34
  go_wp2_with fail
  refine hidx.mono ?_
  rintro o w1 ⟨⟨rfl, hno⟩ | ⟨k, e, rfl, hno, he, hpe⟩, hb1⟩
  · go_wp2
    go_ret
    exact ⟨rfl, hb1⟩
  · simp at he

set_option maxHeartbeats 400000 in
theorem drop_nil (p : Int) (w : World) :
    Calls Try.prog 17 #[.pointer none, .int .i64 p] w fun e w' => e = .returned (.tuple #[]) ∧ Below w.heap.size w w' := by
  go_enter Try.func17, Try.ntmps17
  go_wp2
  (try simp only [Exit.inBlock, Exit.then])
  refine bodyPost_ret (results_none rfl _ _ _) rfl ?_
  exact ⟨rfl, (Below.refl _ _).alloc (Nat.le_refl _) _⟩

theorem setCell_head {w : World} {b : Nat} {v : Value} {t : TypeId} (h : w.heap[b]? = some (.cells #[v] t)) (u : Value) : (w.setCell ⟨b, 0, none⟩ u).heap[b]? = some (.cells #[u] t) := by
  rw [setCell_eq_setRow w b 0 _ _ _ _ h, setRow_heap w b _ _ _ _ h]
  rfl

set_option maxHeartbeats 1000000 in
theorem drop_at (b : Nat) (v : Value) (ks : List (Int × Int × Bool)) (p : Int) (w : World) (h : TlbAt w b v ks) (hn : ks.length ≤ 3) :
    Calls Try.prog 17 #[.pointer (some ⟨b, 0, none⟩), .int .i64 p] w fun e w' => e = .returned (.tuple #[]) ∧ ∃ v', TlbAt w' b v' (filt ks p) ∧ v'.ownBlock = v.ownBlock ∧ UpdP (fun k => k = b ∨ v.ownBlock = some k) w w' := by
  have hmf : ∀ (fn : Fn) (first cap : Array Value) (w : World), (Instr.makeFunc fn first cap).run Try.prog w = .ok (.func fn first cap) w := fun _ _ _ _ => rfl
  have hc : w.cell? ⟨b, 0, none⟩ = some v := by rw [cell_of_heap h.head]; rfl
  have hbl := h.blt
  have hpb := heap_alloc_new w (.cells #[.int .i64 p] 3)
  have hbA : Below w.heap.size w (w.alloc (.cells #[.int .i64 p] 3)) := (Below.refl _ _).alloc (Nat.le_refl _) _
  have hA := h.below hbA
  rcases h.own.2 with ⟨e2, e3⟩ | ⟨g, cap, cur, e2, _, hh, h1, h2, h3, h4⟩
  · have hks := List.length_eq_zero_iff.1 e3
    subst hks
    subst e2
    have hdel := delete_nil w.heap.size p _ hpb
    unfold dropF at hdel
    go_enter Try.func17, Try.ntmps17
    go_wp2_with fail
    refine hdel.mono ?_
    rintro o w1 ⟨rfl, hb1⟩
    have h1 := hA.below hb1
    have c1 : w1.cell? ⟨b, 0, none⟩ = some (.slice none 0 0) := by rw [cell_of_heap h1.head]; rfl
    have z1 : w1.frozen? ⟨b, 0, none⟩ = false := frozen_of_heap h1.head
    go_wp2
    go_end0
    refine ⟨rfl, .slice none 0 0, ⟨setCell_head h1.head _, World.ownsRow_nil _ _ _ _, by simp [Value.ownBlock]⟩, rfl, ?_⟩
    exact ((UpdP.of_below hbA).trans ((UpdP.of_below hb1))).trans ((Upd.setCell b 0 _ _).p _ (Or.inl rfl))
  · subst e2
    have hgb : g ≠ b := fun e => h.far (by rw [e]; rfl)
    have hg := hA.own
    have hgl := lt_of_heap hh
    have hdel := delete_any g cap cur ks w.heap.size p _ ((hbA.block g hgl).trans hh) h1 h3 (Pts.of_flat h4) hn hpb (by omega) h2
    unfold dropF at hdel
    have HH : Hid _ := hA
    clear hA hh h hg
    go_enter Try.func17, Try.ntmps17
    go_wp2_with fail
    refine hdel.mono ?_
    rintro o w1 ⟨cur', rfl, hg1, hs1, hp1, hu1⟩
    have hb1 : w1.heap[b]? = _ := (hu1.block b (by simp; omega) (Ne.symm hgb)).trans HH.out.head
    have c1 : w1.cell? ⟨b, 0, none⟩ = some (.slice (some ⟨g, 0, none⟩) ks.length cap) := by rw [cell_of_heap hb1]; rfl
    have z1 : w1.frozen? ⟨b, 0, none⟩ = false := frozen_of_heap hb1
    have HB : Hid _ := hb1
    have HG : Hid _ := hg1
    clear hb1 hg1
    go_wp2
    go_end0
    have hle := filt_le ks p
    refine ⟨rfl, .slice (some ⟨g, 0, none⟩) (filt ks p).length cap, ⟨setCell_head HB.out _, ⟨flat_len _, Or.inr ⟨g, cap, cur', rfl, Nat.zero_le _, ?_, by omega, h2, hs1, hp1.flat⟩⟩, by simp [Value.ownBlock]; exact hgb⟩, rfl, ?_⟩
    · rw [Below.heap_setCell _ _ _ _ hgb]; exact HG.out
    · exact ((UpdP.of_below hbA).trans (hu1.p _ (Or.inr rfl))).trans ((Upd.setCell b 0 _ _).p _ (Or.inl rfl))

end Go.Proofs.Ythkffhfjkddpkaa
