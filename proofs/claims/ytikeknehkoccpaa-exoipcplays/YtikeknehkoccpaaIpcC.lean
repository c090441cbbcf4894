/- Package exoipc: the library's IndexFunc, DeleteFunc and Delete over a queue's row; take, drop. -/
import Derived.Test.YtikeknehkoccpaaIpcB
namespace Go.Proofs.Ytikeknehkoccpaa
open Go.RowKit
set_option linter.unusedVariables false

/-- 'clear' of a part of a block of cells, of elements of several cells: the cells beside it stay. -/
theorem run_clear_wide {P : Program} (w : World) (t ty elem : TypeId) (g o n cap : Nat) (cur : Array Value) (et : TypeId) (z : Value) (size : Nat) (hu : P.underlying t = some (.slice elem))
    (hz : (P.info? elem).map (fun i => i.zero) = some (some z)) (hsz : z.cells.size = size) (h0 : 0 < size) (h1 : ∀ v ∈ z.cells.toList, v.oneCell' = true)
    (hg : w.heap[g]? = some (.cells cur et (0, 0))) (hn : 0 < n) (hfit : o + n * size ≤ cur.size) :
    ∃ cur', (Builtin.clear_ #[t] ty #[.slice (some ⟨g, o, none⟩) n cap]).run P w = .ok (.tuple #[]) (w.setRow g cur') ∧ cur'.size = cur.size ∧ ∀ x, x < o → cur'[x]? = cur[x]? := by
  obtain ⟨i, hi, hzz⟩ := Option.map_eq_some_iff.1 hz
  have hlen : (Builtin.zeroCells z.cells n).toList.length = n * size := by simp [Builtin.zeroCells, hsz]
  have hone : ∀ v ∈ (Builtin.zeroCells z.cells n).toList, v.oneCell' = true := by
    intro v hv
    simp [Builtin.zeroCells] at hv
    obtain ⟨a, ha, rfl⟩ := hv
    have hlt : a % z.cells.size < z.cells.size := Nat.mod_lt _ (by omega)
    rw [getElem!_pos z.cells _ hlt]
    exact h1 _ (by simp)
  have hst := run_storeCells_at P g o et (Builtin.zeroCells z.cells n).toList 0 cur w hg (by rw [hlen]; omega) hone
  obtain ⟨m, rfl⟩ : ∃ m, n = m + 1 := ⟨n - 1, by omega⟩
  rw [hlen] at hst
  simp only [Nat.add_zero] at hst
  refine ⟨(cur.toList.take o ++ (Builtin.zeroCells z.cells (m + 1)).toList ++ cur.toList.drop (o + (m + 1) * size)).toArray, ?_, ?_, ?_⟩
  · simp [Builtin.clear_, run_underlying hu, zeroValue, typeInfo, hi, hzz, hst]
  · simp [hlen]; omega
  · intro x hx
    rw [List.getElem?_toArray, List.append_assoc, List.getElem?_append_left (by simp; omega), List.getElem?_take_of_lt hx]
    simp

/-- Two cells stored in a row. -/
def cur2 (cur : Array Value) (o : Nat) (x y : Value) : Array Value := (cur.setIfInBounds o x).setIfInBounds (o + 1) y
theorem put2 {w : World} {g : Nat} {cur : Array Value} {t : TypeId} (h : w.heap[g]? = some (.cells cur t (0, 0))) (o : Nat) (x y : Value) :
    ((w.setCell ⟨g, o, none⟩ x).setCell ⟨g, o + 1, none⟩ y).heap[g]? = some (.cells (cur2 cur o x y) t (0, 0)) := by
  have a1 : (w.setCell ⟨g, o, none⟩ x).heap[g]? = some (.cells (cur.setIfInBounds o x) t (0, 0)) := by rw [setCell_eq_setRow w g o _ _ _ _ h, setRow_heap w g _ _ _ _ h]
  rw [setCell_eq_setRow _ g (o + 1) _ _ _ _ a1, setRow_heap _ g _ _ _ _ a1]
  rfl
theorem cur2_size (cur : Array Value) (o : Nat) (x y : Value) : (cur2 cur o x y).size = cur.size := by simp [cur2]
theorem cur2_out (cur : Array Value) (o : Nat) (x y : Value) (k : Nat) (h : k < o ∨ o + 1 < k) : (cur2 cur o x y)[k]? = cur[k]? := by
  simp only [cur2, Array.getElem?_setIfInBounds]
  rw [if_neg (by omega), if_neg (by omega)]
theorem cur2_in (cur : Array Value) (o : Nat) (x y : Value) (h : o + 1 < cur.size) : (cur2 cur o x y)[o]? = some x ∧ (cur2 cur o x y)[o + 1]? = some y := by
  simp only [cur2, Array.getElem?_setIfInBounds, Array.size_setIfInBounds]
  refine ⟨?_, ?_⟩
  · rw [if_neg (by omega), if_pos trivial, if_pos (by omega)]
  · rw [if_pos trivial, if_pos (by omega)]

/-- The cells of cur say what M says, place by place. -/
def Pts (cur : Array Value) (M : List Mg) : Prop := ∀ (i : Nat) (m : Mg), M[i]? = some m → cur[i * 2]? = some (.int .i64 m.fr) ∧ cur[i * 2 + 1]? = some m.v
theorem Pts.flat {cur : Array Value} {M : List Mg} (h : Pts cur M) (hs : M.length * 2 ≤ cur.size) : cur.toList.take (M.length * 2) = mcells M := by
  refine mcells_of (by simp; omega) (fun j m hm => ?_)
  have hj : j < M.length := (List.getElem?_eq_some_iff.1 hm).1
  rw [List.getElem?_take_of_lt (by omega), List.getElem?_take_of_lt (by omega)]
  simpa using h j m hm
theorem Pts.of_flat {cur : Array Value} {M : List Mg} (h : cur.toList.take (M.length * 2) = mcells M) : Pts cur M := by
  intro j m hm
  have hj : j < M.length := (List.getElem?_eq_some_iff.1 hm).1
  obtain ⟨h1, h2⟩ := mcells_get M j m hm
  rw [← h, List.getElem?_take_of_lt (by omega)] at h1 h2
  exact ⟨by simpa using h1, by simpa using h2⟩
theorem Pts.sub {cur cur' : Array Value} {M : List Mg} (h : Pts cur M) (hs : ∀ x, x < M.length * 2 → cur'[x]? = cur[x]?) : Pts cur' M := by
  intro i e he
  have hi : i < M.length := (List.getElem?_eq_some_iff.1 he).1
  rw [hs (i * 2) (by omega), hs (i * 2 + 1) (by omega)]
  exact h i e he
theorem Pts.take {cur : Array Value} {M : List Mg} (h : Pts cur M) (k : Nat) : Pts cur (M.take k) := by
  intro i e he
  rw [List.getElem?_take] at he
  split at he
  · exact h i e he
  · cases he
theorem Pts.snoc {cur : Array Value} {M : List Mg} (h : Pts cur M) (e : Mg) (hs : M.length * 2 + 1 < cur.size) : Pts (cur2 cur (M.length * 2) (.int .i64 e.fr) e.v) (M ++ [e]) := by
  intro i d hd
  by_cases hi : i < M.length
  · rw [List.getElem?_append_left hi] at hd
    rw [cur2_out _ _ _ _ _ (by omega), cur2_out _ _ _ _ _ (by omega)]
    exact h i d hd
  · rw [List.getElem?_append_right (by omega)] at hd
    have hik : i = M.length := by
      have := (List.getElem?_eq_some_iff.1 hd).1
      simp at this; omega
    subst hik
    simp at hd
    subst hd
    exact cur2_in _ _ _ _ hs
/-- A queue's row, block by block. -/
theorem own_pts {w : World} {B : Nat} {v : Value} {M : List Mg} (h : w.ownsRow B 64 2 v M.length (mcells M)) :
    (v = .slice none 0 0 ∧ M = []) ∨ ∃ g cap cur, v = .slice (some ⟨g, 0, none⟩) M.length cap ∧ B ≤ g ∧ w.heap[g]? = some (.cells cur 64 (0, 0)) ∧ M.length ≤ cap ∧ cap ≤ maxLen ∧ cur.size = cap * 2 ∧ Pts cur M := by
  rcases h.2 with ⟨h1, h2⟩ | ⟨g, cap, cur, h1, h2, h3, h4, h5, h6, h7⟩
  · exact Or.inl ⟨h1, List.length_eq_zero_iff.1 h2⟩
  · exact Or.inr ⟨g, cap, cur, h1, h2, h3, h4, h5, h6, Pts.of_flat h7⟩
theorem own_of_pts {w : World} {B g cap : Nat} {cur : Array Value} {M : List Mg} (h2 : B ≤ g) (h3 : w.heap[g]? = some (.cells cur 64 (0, 0))) (h4 : M.length ≤ cap) (h5 : cap ≤ maxLen) (h6 : cur.size = cap * 2) (h7 : Pts cur M) :
    w.ownsRow B 64 2 (.slice (some ⟨g, 0, none⟩) M.length cap) M.length (mcells M) :=
  ⟨mcells_len M, Or.inr ⟨g, cap, cur, rfl, h2, h3, h4, h5, h6, h7.flat (by omega)⟩⟩

/-- Up to k none is n's. -/
def noneTo (M : List Mg) (n : Int) (k : Nat) : Prop := ∀ (i : Nat) (e : Mg), i < k → M[i]? = some e → e.fr ≠ n
theorem drop_id {M : List Mg} {n : Int} {k : Nat} (h : noneTo M n k) : dropM n (M.take k) = M.take k := by
  unfold dropM
  rw [List.filter_eq_self]
  intro e he
  obtain ⟨i, hi⟩ := List.getElem?_of_mem he
  rw [List.getElem?_take] at hi
  split at hi
  · rename_i hik
    simpa using h i e hik hi
  · cases hi
theorem drop_hit {M : List Mg} {n : Int} {k : Nat} {e : Mg} (he : M[k]? = some e) (hp : e.fr = n) : dropM n (M.take (k + 1)) = dropM n (M.take k) := by
  unfold dropM
  rw [List.take_add_one, he]
  simp [hp]
theorem drop_miss {M : List Mg} {n : Int} {k : Nat} {e : Mg} (he : M[k]? = some e) (hp : e.fr ≠ n) : dropM n (M.take (k + 1)) = dropM n (M.take k) ++ [e] := by
  unfold dropM
  rw [List.take_add_one, he]
  simp [hp]

/-- Gone's closure. -/
abbrev dropF (pb : Nat) : Value := .func (.func 29) #[] #[.pointer (some ⟨pb, 0, none⟩)]
theorem drop1_any (e : Mg) (pb : Nat) (n : Int) (w : World) (hp : w.heap[pb]? = some (.cells #[.int .i64 n] 3)) :
    Calls Try.prog 29 #[.agg #[.int .i64 e.fr, .slice e.a e.ws.length e.cap], .pointer (some ⟨pb, 0, none⟩)] w fun o w' => o = .returned (.bool (e.fr == n)) ∧ Below w.heap.size w w' := by
  have hc : w.cell? ⟨pb, 0, none⟩ = some (.int .i64 n) := by rw [cell_of_heap hp]; rfl
  have hB := cell_lt hc
  dsimp only at hB
  have hne : pb ≠ w.heap.size := by omega
  clear hp
  go_enter Try.func29, Try.ntmps29
  go_wp2
  all_goals (go_ret; exact ⟨by simp_all, below_alloc _ _⟩)

set_option maxHeartbeats 1000000 in
theorem index_any (a : Option Addr) (cap : Nat) (M : List Mg) (pb : Nat) (n : Int) (w : World) (hrow : M ≠ [] → ∃ g cur, a = some ⟨g, 0, none⟩ ∧ w.heap[g]? = some (.cells cur 64 (0, 0)) ∧ Pts cur M) (hl : M.length ≤ 1000)
    (hp : w.heap[pb]? = some (.cells #[.int .i64 n] 3)) :
    Calls Try.prog 32 #[.slice a M.length cap, dropF pb] w fun o w' =>
      ((o = .returned (.int .i64 (-1)) ∧ noneTo M n M.length) ∨ ∃ (k : Nat) (e : Mg), o = .returned (.int .i64 k) ∧ noneTo M n k ∧ M[k]? = some e ∧ e.fr = n) ∧ Below w.heap.size w w' := by
  have HR : Hid _ := hrow
  have HP : Hid _ := hp
  clear hrow hp
  unfold dropF
  go_enter Try.func32, Try.ntmps32
  go_wp2
  go_loopw [5, 8] (fun _ s wr => ∃ (k : Nat), k ≤ M.length ∧ s = .int .i64 k ∧ Hid (noneTo M n k) ∧ Below w.heap.size w wr) (fun _ s _ => M.length - (intOf s).toNat)
  case atStart => exact ⟨0, by omega, rfl, (show Hid _ from fun j x hj => absurd hj (Nat.not_lt_zero _)), Below.refl _ _⟩
  case round =>
    obtain ⟨k, hk, rfl, HN, hb⟩ := hrel
    by_cases hlt : k < M.length
    · obtain ⟨m, hm⟩ : ∃ m, M[k]? = some m := ⟨M[k], List.getElem?_eq_getElem hlt⟩
      obtain ⟨g, cur, rfl, hh, hpt⟩ := HR.out (by intro e; rw [e] at hlt; simp at hlt)
      have hh2 := (hb.block g (lt_of_heap hh)).trans hh
      obtain ⟨c0, c1⟩ := hpt k m hm
      have d0 : wr.cell? ⟨g, k * 2, none⟩ = some (.int .i64 m.fr) := by rw [cell_of_heap hh2]; exact c0
      have d1 : wr.cell? ⟨g, k * 2 + 1, none⟩ = some (.slice m.a m.ws.length m.cap) := by rw [cell_of_heap hh2]; exact c1
      have hcall := drop1_any m pb n wr ((hb.block pb (lt_of_heap HP.out)).trans HP.out)
      have HM : Hid _ := hm
      have hki : (k : Int) < (M.length : Int) := by omega
      clear hm hh hh2 hpt c0 c1
      by_cases hq : m.fr = n
      · have hqb : (m.fr == n) = true := by simpa using hq
        rw [hqb] at hcall
        have HQ : Hid _ := hq
        clear hq hqb
        go_wp2_with (go_at_call 29; refine hcall.mono ?_; rintro e w' ⟨rfl, hb'⟩)
        go_ret
        exact ⟨Or.inr ⟨k, m, rfl, HN.out, HM.out, HQ.out⟩, hb.trans (hb'.mono hb.size)⟩
      · have hqb : (m.fr == n) = false := by simpa using hq
        rw [hqb] at hcall
        have HN2 : Hid (noneTo M n (k + 1)) := by
          intro j x hj hx
          by_cases e : j = k
          · subst e
            rw [HM.out] at hx
            cases hx
            exact hq
          · exact HN.out j x (by omega) hx
        clear hq hqb
        go_wp2_with (go_at_call 29; refine hcall.mono ?_; rintro e w' ⟨rfl, hb'⟩)
        go_roundw
        case rel => exact ⟨k + 1, by omega, by go_num, HN2, hb.trans (hb'.mono hb.size)⟩
        case measure => simp [intOf]; omega
    · obtain rfl : k = M.length := by omega
      go_wp2
      go_ret
      exact ⟨Or.inl ⟨rfl, HN.out⟩, hb⟩

theorem msgZero : (Try.prog.info? 64).map (fun i => i.zero) = some (some (.agg #[.int .i64 0, .slice none 0 0])) := by kernel_rfl
/-- What is known in the loop of DeleteFunc: i are kept, j are looked at. -/
structure Deleting (w wr : World) (g pb cap : Nat) (M : List Mg) (n : Int) (i j : Nat) (cur cur' : Array Value) : Prop where
  at_ : wr.heap[g]? = some (.cells cur' 64 (0, 0))
  page : wr.heap[pb]? = some (.cells #[.int .i64 n] 3)
  size : cur'.size = cap * 2
  have_ : i = (dropM n (M.take j)).length
  lt : i < j
  le : j ≤ M.length
  pts : Pts cur' (dropM n (M.take j))
  rest : ∀ x, j * 2 ≤ x → cur'[x]? = cur[x]?
  upd : Upd g w wr

set_option maxHeartbeats 2000000 in
theorem deleteFunc_any (g cap : Nat) (cur : Array Value) (M : List Mg) (pb : Nat) (n : Int) (w : World) (hh : w.heap[g]? = some (.cells cur 64 (0, 0))) (hcap : M.length ≤ cap) (hcs : cur.size = cap * 2)
    (hpt : Pts cur M) (hn : M.length ≤ 1000) (hp : w.heap[pb]? = some (.cells #[.int .i64 n] 3)) (hne : g ≠ pb) (hcl : cap ≤ maxLen) :
    Calls Try.prog 31 #[.slice (some ⟨g, 0, none⟩) M.length cap, dropF pb] w fun o w' =>
      ∃ cur', o = .returned (.slice (some ⟨g, 0, none⟩) (dropM n M).length cap) ∧ w'.heap[g]? = some (.cells cur' 64 (0, 0)) ∧ cur'.size = cap * 2 ∧ Pts cur' (dropM n M) ∧ Upd g w w' := by
  have hidx := index_any (some ⟨g, 0, none⟩) cap M pb n w (fun _ => ⟨g, cur, rfl, hh, hpt⟩) hn hp
  unfold dropF at hidx ⊢
  unfold maxLen at hcl
  go_enter Try.func31, Try.ntmps31
  go_wp2_with fail
  refine hidx.mono ?_
  rintro o w1 ⟨⟨rfl, hno⟩ | ⟨k, e, rfl, hno, he, hpe⟩, hb1⟩
  · have hF : dropM n M = M := by have := drop_id hno; rwa [List.take_length] at this
    have HH : Hid _ := (hb1.block g (lt_of_heap hh)).trans hh
    clear hh
    go_wp2
    go_ret
    rw [hF]
    exact ⟨cur, rfl, HH.out, hcs, hpt, Upd.of_below hb1⟩
  · have hk : k < M.length := (List.getElem?_eq_some_iff.1 he).1
    have hD : Deleting w w1 g pb cap M n k (k + 1) cur cur := by
      have e1 : dropM n (M.take (k + 1)) = M.take k := (drop_hit he hpe).trans (drop_id hno)
      exact ⟨(hb1.block g (lt_of_heap hh)).trans hh, (hb1.block pb (lt_of_heap hp)).trans hp, hcs, by rw [e1]; simp; omega, by omega, by omega, by rw [e1]; exact hpt.take k, fun _ _ => rfl, Upd.of_below hb1⟩
    clear hh hp hb1 hno he hpe hidx
    go_wp2
    go_loopw [5, 6] (fun a b wr => ∃ (i j : Nat) (cur' : Array Value), a = .int .i64 i ∧ b = .int .i64 j ∧ Deleting w wr g pb cap M n i j cur cur') (fun _ b _ => M.length - (intOf b).toNat)
    case atStart => exact ⟨k, k + 1, cur, rfl, by go_num, hD⟩
    case round =>
      clear hD
      obtain ⟨i, j, cur', rfl, rfl, hD⟩ := hrel
      obtain ⟨h1, h2, h3, h4', h5, h6, h7, h8, h9⟩ := hD
      have H4 : Hid _ := h4'
      clear h4'
      by_cases hlj : j < M.length
      · obtain ⟨e, he⟩ : ∃ e, M[j]? = some e := ⟨M[j], List.getElem?_eq_getElem hlj⟩
        obtain ⟨c0, c1⟩ := hpt j _ he
        have d0 : wr.cell? ⟨g, j * 2, none⟩ = some (.int .i64 e.fr) := by rw [cell_of_heap h1, h8 _ (by omega)]; exact c0
        have d1 : wr.cell? ⟨g, j * 2 + 1, none⟩ = some (.slice e.a e.ws.length e.cap) := by rw [cell_of_heap h1, h8 _ (by omega)]; exact c1
        have hint : (j : Int) < (M.length : Int) := by omega
        have hint2 : (i : Int) < (M.length : Int) := by omega
        have hgl := lt_of_heap h1
        have hpl := lt_of_heap h2
        obtain ⟨W, hW⟩ : ∃ W, W = wr.alloc (.cells (mrow e) 64) := ⟨_, rfl⟩
        have hWp : W.heap[pb]? = some (.cells #[.int .i64 n] 3) := by rw [hW, Below.heap_alloc _ _ _ hpl]; exact h2
        have hWg : W.heap[g]? = some (.cells cur' 64 (0, 0)) := by rw [hW, Below.heap_alloc _ _ _ hgl]; exact h1
        have hWb : W.heap[wr.heap.size]? = some (.cells (mrow e) 64 (0, 0)) := by rw [hW]; exact heap_alloc_new _ _
        have hWu : Upd g w W := by rw [hW]; exact h9.trans (Upd.alloc g _ _)
        have hcl := drop1_any e pb n W hWp
        unfold mrow at hW
        clear c0 c1
        by_cases hpe : e.fr = n
        · have hq : (e.fr == n) = true := by simpa using hpe
          rw [hq, hW] at hcl
          have HP : Hid _ := hpe
          have H1 : Hid _ := hWg
          have H2 : Hid _ := hWp
          have H3 : Hid _ := hWb
          clear hpe hq hWg hWp hWb h1 h2
          go_wp2_with fail
          refine hcl.mono ?_
          rintro o w2 ⟨rfl, hb2⟩
          rw [← hW] at hb2
          have hW2 : Deleting w w2 g pb cap M n i (j + 1) cur cur' := by
            have e1 := drop_hit he HP.out
            exact ⟨(hb2.block g (lt_of_heap H1.out)).trans H1.out, (hb2.block pb (lt_of_heap H2.out)).trans H2.out, h3, by rw [e1]; exact H4.out, by omega, by omega, by rw [e1]; exact h7, fun x hx => h8 x (by omega), hWu.trans (Upd.of_below hb2)⟩
          go_wp2
          go_roundw
          case rel =>
            repeat apply Exists.intro
            refine And.intro ?_ rfl
            exact ⟨i, j + 1, cur', rfl, by go_num, hW2⟩
          case measure => simp [intOf]; omega
        · have hq : (e.fr == n) = false := by simpa using hpe
          rw [hq, hW] at hcl
          have HP : Hid _ := hpe
          have H1 : Hid _ := hWg
          have H2 : Hid _ := hWp
          have H3 : Hid _ := hWb
          clear hpe hq hWg hWp hWb h1 h2
          go_wp2_with fail
          refine hcl.mono ?_
          rintro o w2 ⟨rfl, hb2⟩
          rw [← hW] at hb2
          have f0 : w2.heap[wr.heap.size]? = _ := (hb2.block _ (lt_of_heap H3.out)).trans H3.out
          have f1 : w2.heap[g]? = _ := (hb2.block _ (lt_of_heap H1.out)).trans H1.out
          have g0 : w2.cell? ⟨wr.heap.size, 0, none⟩ = some (.int .i64 e.fr) := by rw [cell_of_heap f0]; rfl
          have g1 : w2.cell? ⟨wr.heap.size, 1, none⟩ = some (.slice e.a e.ws.length e.cap) := by rw [cell_of_heap f0]; rfl
          obtain ⟨q0, hq0⟩ : ∃ q, w2.cell? ⟨g, i * 2, none⟩ = some q := by rw [cell_of_heap f1]; exact ⟨_, Array.getElem?_eq_getElem (by omega)⟩
          obtain ⟨q1, hq1⟩ : ∃ q, w2.cell? ⟨g, i * 2 + 1, none⟩ = some q := by rw [cell_of_heap f1]; exact ⟨_, Array.getElem?_eq_getElem (by omega)⟩
          have z0 : w2.frozen? ⟨g, i * 2, none⟩ = false := frozen_of_heap f1
          have z1 : w2.frozen? ⟨g, i * 2 + 1, none⟩ = false := frozen_of_heap f1
          have hW2 : Deleting w ((w2.setCell ⟨g, i * 2, none⟩ (.int .i64 e.fr)).setCell ⟨g, i * 2 + 1, none⟩ (.slice e.a e.ws.length e.cap)) g pb cap M n (i + 1) (j + 1) cur (cur2 cur' (i * 2) (.int .i64 e.fr) e.v) := by
            have e1 := drop_miss he HP.out
            refine ⟨put2 f1 _ _ _, ?_, by rw [cur2_size]; exact h3, by rw [e1]; simp; exact H4.out, by omega, by omega, ?_, fun x hx => ?_, hWu.trans ((Upd.of_below hb2).trans ((Upd.setCell g _ _ _).trans (Upd.setCell g _ _ _)))⟩
            · rw [Below.heap_setCell _ _ _ _ (Ne.symm hne), Below.heap_setCell _ _ _ _ (Ne.symm hne)]
              exact (hb2.block pb (lt_of_heap H2.out)).trans H2.out
            · have h4 := H4.out
              rw [e1, h4]
              exact h7.snoc e (by omega)
            · rw [cur2_out _ _ _ _ _ (by omega)]
              exact h8 x (by omega)
          have HW : Hid _ := hW2
          clear f0 f1 hW2
          go_wp2
          go_roundw
          case rel =>
            repeat apply Exists.intro
            refine And.intro ?_ rfl
            exact ⟨i + 1, j + 1, _, by go_num, by go_num, HW.out⟩
          case measure => simp [intOf]; omega
      · have hj : j = M.length := by omega
        subst hj
        have hik : i < M.length := h5
        have h4 := H4.out
        rw [List.take_length] at h4 h7
        have H5 : Hid _ := h4
        clear h4 H4
        have hint2 : (i : Int) ≤ (M.length : Int) := by omega
        obtain ⟨cur2, hclr, hs2, hx2⟩ := run_clear_wide (P := Try.prog) wr 54 0 64 g (i * 2) (M.length - i) (cap - i) cur' 64 _ 2 Try.underlying54 msgZero rfl (by omega) (by simp [Value.cells, Value.oneCell']) h1 (by omega) (by rw [h3]; omega)
        have hcc : (i : Int) ≤ (cap : Int) := by omega
        have HU : Hid _ := h9
        have H1 : Hid _ := h1
        have HC : Hid _ := hx2
        clear h1 h2 h9 hx2
        go_wp2
        go_ret
        have h4 := H5.out
        refine ⟨cur2, by rw [← h4]; rfl, setRow_heap _ _ _ _ _ _ H1.out, by rw [hs2]; exact h3, h7.sub (fun x hx => HC.out x (by omega)), (HU.out).trans (Upd.setRow _ _ _)⟩

set_option maxHeartbeats 400000 in
theorem deleteFunc_nil (pb : Nat) (n : Int) (w : World) (hp : w.heap[pb]? = some (.cells #[.int .i64 n] 3)) :
    Calls Try.prog 31 #[.slice none 0 0, dropF pb] w fun o w' => o = .returned (.slice none 0 0) ∧ Below w.heap.size w w' := by
  have hidx := index_any none 0 [] pb n w (fun h => absurd rfl h) (by simp) hp
  unfold dropF at hidx ⊢
  go_enter Try.func31, Try.ntmps31
  go_wp2_with fail
  refine hidx.mono ?_
  rintro o w1 ⟨⟨rfl, hno⟩ | ⟨k, e, rfl, hno, he, hpe⟩, hb1⟩
  · go_wp2
    go_ret
    exact ⟨rfl, hb1⟩
  · simp at he
theorem upd_grown {g : Nat} {w w' : World} (h : Upd g w w') : w.grownBy w' (some g) := ⟨h.os, h.tape, h.output, h.size, fun k hk hne => h.block k hk (fun e => hne (by rw [e]))⟩
/-- Both. -/
theorem deleteFunc_at {B : Nat} {v : Value} {M : List Mg} {w : World} (h : w.ownsRow B 64 2 v M.length (mcells M)) (hl : M.length ≤ 1000) (pb : Nat) (n : Int) (hp : w.heap[pb]? = some (.cells #[.int .i64 n] 3)) :
    Calls Try.prog 31 #[v, dropF pb] w fun o w' =>
      ∃ a c, o = .returned (.slice a (dropM n M).length c) ∧ w'.ownsRow B 64 2 (.slice a (dropM n M).length c) (dropM n M).length (mcells (dropM n M)) ∧ w.grownBy w' v.ownBlock ∧ (∀ g, (Value.slice a (dropM n M).length c).ownBlock = some g → v.ownBlock = some g) := by
  rcases own_pts h with ⟨rfl, rfl⟩ | ⟨g, cap, cur, rfl, hB, hh, hc, hm, hs, hpt⟩
  · refine (deleteFunc_nil pb n w hp).mono ?_
    rintro o w' ⟨rfl, hb⟩
    exact ⟨none, 0, rfl, World.ownsRow_nil _ _ _ _, grown_below _ hb, fun g hg => hg⟩
  · have hne : g ≠ pb := by
      rintro rfl
      rw [hh] at hp
      simp only [Option.some.injEq, Obj.cells.injEq] at hp
      exact absurd hp.2.1 (by decide)
    refine (deleteFunc_any g cap cur M pb n w hh hc hs hpt hl hp hne hm).mono ?_
    rintro o w' ⟨cur', rfl, hh', hs', hpt', hu⟩
    exact ⟨_, _, rfl, own_of_pts hB hh' (Nat.le_trans (dropM_len n M) hc) hm hs' hpt', upd_grown hu, fun g hg => hg⟩
end Go.Proofs.Ytikeknehkoccpaa
