/- Package slices: SortStableFunc of at most 20 entries by their names, as package fscore calls it. -/
/- Package fscore: sorted. -/
import Derived.Test.YtcjpahnlckfgoaaGreatDoorDtK
import Derived.Shelf.SlSortCmp.InsertionK
import Derived.Lib.Bytealg
import Derived.Laws.Externs
namespace Go.Proofs.YtcjpahnlckfgoaaGreatDoor
open Go.RowKit Go.Lib Go.Shelf Go.Sort
set_option linter.unusedVariables false

/-- An entry's two cells. -/
def encF (e : List UInt8 × Nat) : List Value := [tx e.1, .int .i64 (e.2 : Int)]
def cfE (x y : List UInt8 × Nat) : Int := compareBytes x.1 y.1
def insRen : Go.Shelf.Ren := ⟨fun | 20 => 195 | n => n, fun | 0 => 0 | 3 => 3 | 4 => 4 | 22 => 151 | 24 => 157 | 25 => 214 | n => n, fun | n => n⟩
theorem insLays : Go.Proofs.SlLaysF0.n20 Tryz.prog insRen := {
  mixed := by kernel_rfl
  f20 := ⟨Tryz.f195.name, by kernel_rfl, Tryz.func195.trans (congrArg some (by kernel_rfl))⟩
  t0 := Tryz.underlying0
  a0 := Tryz.isAgg0
  z0 := Tryz.sizeOf0
  v0 := Tryz.zeroValue0
  t3 := Tryz.underlying3
  a3 := Tryz.isAgg3
  z3 := Tryz.sizeOf3
  v3 := Tryz.zeroValue3
  t4 := Tryz.underlying4
  a4 := Tryz.isAgg4
  z4 := Tryz.sizeOf4
  v4 := Tryz.zeroValue4
  t22 := Tryz.underlying151
  a22 := Tryz.isAgg151
  z22 := Tryz.sizeOf151
  v22 := Tryz.zeroValue151
  t25 := Tryz.underlying214
  a25 := Tryz.isAgg214
  z25 := Tryz.sizeOf214
  v25 := Tryz.zeroValue214 }
set_option maxRecDepth 100000 in
theorem cmpstr_at (a b : List UInt8) (w : World) :
    Calls Tryz.prog 181 #[tx a, tx b] w fun e w' => e = .returned (.int .i64 (compareBytes a b)) ∧ w' = w := by
  have hx : ∀ W : World, (callFunc 197 #[tx a, tx b]).run Tryz.prog W = .ok (.value (.int .i64 (compareBytes a b))) W := fun W => by
    rw [run_callFunc_extern Tryz.func197 (by kernel_rfl) (by kernel_rfl) (by kernel_rfl) (e := Extern.BytealgCompare.compare) (by kernel_rfl)]
    rw [run_compareString]
    rfl
  generalize compareBytes a b = r at *
  go_enter Tryz.func181, Tryz.ntmps181
  go_wp2
  go_ret
  exact ⟨rfl, rfl⟩
theorem compare_at (a b : List UInt8) (w : World) :
    Calls Tryz.prog 153 #[tx a, tx b] w fun e w' => e = .returned (.int .i64 (compareBytes a b)) ∧ w' = w := by
  have hC := cmpstr_at a b w
  generalize compareBytes a b = r at *
  go_enter Tryz.func153, Tryz.ntmps153
  go_wp2_with fail
  refine hC.mono ?_
  rintro e w1 ⟨rfl, hw⟩
  rw [hw]
  clear hw w1 hC
  go_wp2
  go_ret
  exact ⟨rfl, rfl⟩
set_option maxHeartbeats 1000000 in
theorem less_at (x y : List UInt8 × Nat) (W : World) :
    Calls Tryz.prog 152 #[.agg #[tx x.1, .int .i64 (x.2 : Int)], .agg #[tx y.1, .int .i64 (y.2 : Int)]] W fun e w' => e = .returned (.int .i64 (cfE x y)) ∧ ∃ q os', w' = Sort.grow (W.drewN q) os' := by
  have hC := fun W => compare_at x.1 y.1 W
  have e1 : cfE x y = compareBytes x.1 y.1 := rfl
  rw [e1]
  clear e1
  generalize compareBytes x.1 y.1 = r at *
  go_enter Tryz.func152, Tryz.ntmps152
  go_wp2_with (go_at_call 153; refine (hC _).mono ?_; rintro e w' ⟨rfl, rfl⟩)
  go_ret
  exact ⟨rfl, 0, _, by rw [alloc_eq_grow, alloc_eq_grow, Sort.grow_grow]; rfl⟩
theorem cb_cons (x y : UInt8) (a b : List UInt8) : compareBytes (x :: a) (y :: b) = if x.toNat < y.toNat then -1 else if y.toNat < x.toNat then 1 else compareBytes a b := rfl
theorem cb_same : ∀ a : List UInt8, compareBytes a a = 0
  | [] => rfl
  | x :: a => by
    rw [cb_cons, if_neg (by omega), if_neg (by omega)]
    exact cb_same a
theorem cb_trans : ∀ a b c : List UInt8, compareBytes a b < 0 → compareBytes b c < 0 → compareBytes a c < 0
  | [], [], _, h, _ => by rw [cb_same] at h; omega
  | [], y :: b, [], _, h => by have : compareBytes (y :: b) [] = 1 := rfl; omega
  | [], y :: b, z :: c, _, _ => by show (-1 : Int) < 0; omega
  | x :: a, [], _, h, _ => by have : compareBytes (x :: a) [] = 1 := rfl; omega
  | x :: a, y :: b, [], _, h => by have : compareBytes (y :: b) [] = 1 := rfl; omega
  | x :: a, y :: b, z :: c, h1, h2 => by
    rw [cb_cons] at h1 h2 ⊢
    have ih := cb_trans a b c
    repeat' split at h1
    all_goals repeat' split at h2
    all_goals repeat' split
    all_goals first | omega | exact ih h1 h2
theorem cb_ntrans : ∀ a b c : List UInt8, ¬ compareBytes a b < 0 → ¬ compareBytes b c < 0 → ¬ compareBytes a c < 0
  | [], [], _, _, h => h
  | [], y :: b, _, h, _ => by have : compareBytes [] (y :: b) = -1 := rfl; omega
  | x :: a, _, [], _, _ => by show ¬ (1 : Int) < 0; omega
  | x :: a, [], z :: c, _, h => by have : compareBytes [] (z :: c) = -1 := rfl; omega
  | x :: a, y :: b, z :: c, h1, h2 => by
    rw [cb_cons] at h1 h2 ⊢
    have ih := cb_ntrans a b c
    repeat' split at h1
    all_goals repeat' split at h2
    all_goals repeat' split
    all_goals first | omega | exact ih h1 h2
theorem cb_eq : ∀ a b : List UInt8, ¬ compareBytes a b < 0 → ¬ compareBytes b a < 0 → a = b
  | [], [], _, _ => rfl
  | [], y :: b, h, _ => by have : compareBytes [] (y :: b) = -1 := rfl; omega
  | x :: a, [], _, h => by have : compareBytes [] (x :: a) = -1 := rfl; omega
  | x :: a, y :: b, h1, h2 => by
    rw [cb_cons] at h1 h2
    have ih := cb_eq a b
    repeat' split at h1
    all_goals repeat' split at h2
    all_goals first | omega | skip
    rw [ih h1 h2, UInt8.toNat_inj.1 (show x.toNat = y.toNat by omega)]
theorem swoE : SWO (ltOf cfE) where
  irrefl x := by simp [ltOf, cfE, cb_same]
  trans x y z h1 h2 := decide_eq_true (cb_trans _ _ _ (of_decide_eq_true h1) (of_decide_eq_true h2))
  ntrans x y z h1 h2 := decide_eq_false (cb_ntrans _ _ _ (of_decide_eq_false h1) (of_decide_eq_false h2))
/-- A slice of entries that can be read and sorted: its own block. -/
def Ef (w : World) (g : Nat) (l : List (List UInt8 × Nat)) : Prop := HoldsK encF 2 w g 0 l.toArray ∧ ∃ cur, w.heap[g]? = some (.cells cur 157 (0, 0))
theorem mapBlock_other (w : World) (b k : Nat) (f : Array Value → Array Value) (h : k ≠ b) : (mapBlock w b f).heap[k]? = w.heap[k]? := by
  unfold mapBlock
  simp only [Array.getElem?_modify]
  rw [if_neg (Ne.symm h)]
theorem mapBlock_same (w : World) (b : Nat) (f : Array Value → Array Value) {cs : Array Value} {t : TypeId} {fr : Nat × Nat} (h : w.heap[b]? = some (.cells cs t fr)) : (mapBlock w b f).heap[b]? = some (.cells (f cs) t fr) := by
  unfold mapBlock
  simp [Array.getElem?_modify, h, onCells]
/-- What the sort leaves. -/
theorem sortW_upd (w : World) (g m : Nat) (d : Array (List UInt8 × Nat)) (os : Array Obj) : Upd g w (sortWorldK encF 2 w g 0 m d os) := by
  unfold sortWorldK putRowK putRow
  refine ⟨rfl, rfl, rfl, ?_, fun k hk hne => ?_⟩
  · simp [Sort.grow, mapBlock, Sort.ahead]
  · rw [heap_grow_old _ _ (by simpa [mapBlock, Sort.ahead] using hk), mapBlock_other _ _ _ _ hne]
    rfl
theorem sortW_ef {w : World} {g m : Nat} {l : List (List UInt8 × Nat)} {d : Array (List UInt8 × Nat)} {os : Array Obj} (h : Ef w g l) (hs : d.size = l.length) : Ef (sortWorldK encF 2 w g 0 m d os) g d.toList := by
  obtain ⟨hH, cur, hc⟩ := h
  have hb := lt_of_heap hc
  refine ⟨by simpa using holdsK_sortWorldK_c encF 2 w g 0 l.toArray d m os hH hb (by simpa using hs), ?_⟩
  unfold sortWorldK putRowK putRow
  rw [heap_grow_old _ _ (by simpa [mapBlock, Sort.ahead] using hb), mapBlock_same (Sort.ahead w m) g _ (cs := cur) (t := 157) (fr := (0, 0)) hc]
  exact ⟨_, rfl⟩
/-- So many entries, sorted: as the insertion sort lays them. -/
def srt (l : List (List UInt8 × Nat)) : List (List UInt8 × Nat) := (Sort.insertionSort (ltOf cfE) l.toArray 0 l.toArray.size).toList
theorem enterF : ∀ (args : Array Value) (W : World), (callFunc 152 args).run Tryz.prog W = .ok (.enter 152 args) W := fun args W => by kernel_rfl
set_option maxHeartbeats 1000000 in
theorem ins_at {w : World} {g : Nat} (d : Array (List UInt8 × Nat)) (cap a b : Nat) (h : Ef w g d.toList) (hab : a ≤ b) (hb : b ≤ d.size) (hsz : d.size ≤ 1000) :
    Calls Tryz.prog 195 #[.slice (some ⟨g, 0, none⟩) d.size cap, .int .i64 (a : Int), .int .i64 (b : Int), .func (.func 152) #[] #[]] w fun e w' => e = .returned (.tuple #[]) ∧ Ef w' g (Sort.insertionSort (ltOf cfE) d a b).toList ∧ Upd g w w' ∧ (Sort.insertionSort (ltOf cfE) d a b).size = d.size := by
  obtain ⟨hH, cur, hc⟩ := h
  have hH' : HoldsK encF 2 w g 0 d := by simpa using hH
  have hcon := AnyQ.insertionSortCmpFunc insLays 2 Tryz.isAgg157 Tryz.sizeOf157 encF (fun _ => rfl) (fun x v hv => by simp [encF] at hv; rcases hv with rfl | rfl <;> rfl) cfE 152 #[] g 0 cap a b d w enterF (fun _ _ _ _ x y => less_at x y _) hH' (lt_of_heap hc) hab hb (by omega)
  have hsz2 : (Sort.insertionSort (ltOf cfE) d a b).size = d.size := by
    exact (insertionSort_holds swoE d a b hab hb).1.1
  refine hcon.mono ?_
  rintro e w' ⟨rfl, n, os, rfl⟩
  exact ⟨rfl, sortW_ef ⟨hH, cur, hc⟩ (by simpa using hsz2), sortW_upd _ _ _ _ _, hsz2⟩
/-- The rows that are sorted. -/
theorem srt_facts (l : List (List UInt8 × Nat)) : (srt l).length = l.length ∧ (srt l).Perm l ∧ ∀ i j, i < j → j < l.length → ltOf cfE ((srt l).getD j default) ((srt l).getD i default) = false := by
  obtain ⟨⟨h1, h2, h3⟩, h4⟩ := insertionSort_holds (lt := ltOf cfE) swoE l.toArray 0 l.toArray.size (by omega) (Nat.le_refl _)
  unfold srt
  generalize Sort.insertionSort (ltOf cfE) l.toArray 0 l.toArray.size = D at *
  refine ⟨by simpa using h1, ?_, fun i j hij hj => ?_⟩
  · have e1 : D.extract 0 l.toArray.size = D := by rw [← h1]; exact Array.extract_size
    have e2 : l.toArray.extract 0 l.toArray.size = l.toArray := Array.extract_size
    rw [e1, e2] at h3
    simpa using h3
  · have := h4 i j (by omega) hij (by simpa using hj)
    rw [Array.getElem!_eq_getD, Array.getElem!_eq_getD, Array.getD_eq_getD_getElem?, Array.getD_eq_getD_getElem?] at this
    rw [List.getD_eq_getElem?_getD, List.getD_eq_getElem?_getD, Array.getElem?_toList, Array.getElem?_toList]
    exact this
set_option maxHeartbeats 2000000 in
set_option maxRecDepth 100000 in
theorem stable_at {w : World} {g : Nat} (l : List (List UInt8 × Nat)) (cap : Nat) (h : Ef w g l) (hl : l.length < 20) :
    Calls Tryz.prog 180 #[.slice (some ⟨g, 0, none⟩) l.length cap, .int .i64 (l.length : Int), .func (.func 152) #[] #[]] w fun e w' => e = .returned (.tuple #[]) ∧ Ef w' g (srt l) ∧ Upd g w w' := by
  have hI := ins_at l.toArray cap 0 l.length (by simpa using h) (by omega) (by simp) (by simp; omega)
  have hI' : Calls Tryz.prog 195 #[.slice (some ⟨g, 0, none⟩) l.length cap, .int .i64 0, .int .i64 (l.length : Int), .func (.func 152) #[] #[]] w fun e w' => e = .returned (.tuple #[]) ∧ Ef w' g (srt l) ∧ Upd g w w' := by
    have e1 : l.toArray.size = l.length := by simp
    rw [e1] at hI
    refine hI.mono ?_
    rintro e w' ⟨rfl, q1, q2, q3⟩
    refine ⟨rfl, ?_, q2⟩
    unfold srt
    rw [e1]
    exact q1
  clear hI h
  generalize srt l = sl at *
  obtain ⟨n, hn⟩ : ∃ n, n = l.length := ⟨_, rfl⟩
  rw [← hn] at hI' hl ⊢
  have h1 : ¬ (20 : Int) ≤ (n : Int) := by omega
  have h2 : ¬ (20 : Int) < (n : Int) := by omega
  clear hn
  go_enter Tryz.func180, Tryz.ntmps180
  go_wp2
  go_loopw [7, 8] (fun a b wr => a = .int .i64 0 ∧ b = .int .i64 20 ∧ wr = w) (fun _ _ _ => 0)
  case atStart => exact ⟨rfl, rfl, rfl⟩
  case round =>
    obtain ⟨rfl, rfl, rfl⟩ := hrel
    go_wp2_with fail
    refine hI'.mono ?_
    rintro e w1 ⟨rfl, hq⟩
    have HQ : Hid (Ef w1 g sl ∧ Upd g wr w1) := hq
    clear hq hI'
    go_wp2
    go_loopw [6] (fun b wr2 => b = .int .i64 20 ∧ wr2 = w1) (fun _ _ => 0)
    case atStart => exact ⟨rfl, rfl⟩
    case round =>
      obtain ⟨rfl, rfl⟩ := hrel
      go_wp2
      go_end0
      exact ⟨rfl, HQ.out⟩
end Go.Proofs.YtcjpahnlckfgoaaGreatDoor

namespace Go.Proofs.YtcjpahnlckfgoaaGreatDoor
open Go.RowKit Go.Lib Go.Shelf Go.Sort
set_option linter.unusedVariables false

theorem entrInfo : (Tryz.prog.info? 157).map (fun i => (i.zero, i.size, i.bytes)) = some (some (.agg #[.string ⟨#[]⟩, .int .i64 0]), 2, 24) := by kernel_rfl
/-- The cells of entries. -/
def cellsF : List (List UInt8 × Nat) → List Value
  | [] => []
  | e :: l => tx e.1 :: .int .i64 (e.2 : Int) :: cellsF l
theorem cellsF_len : ∀ (l : List (List UInt8 × Nat)), (cellsF l).length = l.length * 2
  | [] => rfl
  | e :: l => by simp only [cellsF, List.length_cons, cellsF_len l]; omega
theorem cellsF_app : ∀ (l m : List (List UInt8 × Nat)), cellsF (l ++ m) = cellsF l ++ cellsF m
  | [], m => rfl
  | e :: l, m => by simp only [List.cons_append, cellsF, cellsF_app l m]
theorem cellsF_get : ∀ {l : List (List UInt8 × Nat)} {j : Nat} {e : List UInt8 × Nat}, l[j]? = some e → (cellsF l)[2 * j]? = some (tx e.1) ∧ (cellsF l)[2 * j + 1]? = some (.int .i64 (e.2 : Int))
  | [], j, e, h => by simp at h
  | x :: l, 0, e, h => by
    simp at h
    subst h
    exact ⟨rfl, rfl⟩
  | x :: l, j + 1, e, h => by
    have := cellsF_get (l := l) (j := j) (e := e) (by simpa using h)
    rw [show 2 * (j + 1) = 2 * j + 1 + 1 by omega]
    exact this
abbrev OwF (w : World) (base : Nat) (v : Value) (l : List (List UInt8 × Nat)) : Prop := w.ownsRow base 157 2 v l.length (cellsF l)
theorem flat_get (l : List (List UInt8 × Nat)) (t : Nat) (h : t < l.length * 2) : (cellsF l)[t]? = some (flatK encF 2 l.toArray)[t]! := by
  have ht : t / 2 < l.length := by omega
  have hg := cellsF_get (List.getElem?_eq_getElem ht)
  rw [get_flatK encF 2 l.toArray t (by simpa using h)]
  have e0 : l.toArray[t / 2]! = l[t / 2] := by simp [ht]
  rw [e0]
  rcases Nat.mod_two_eq_zero_or_one t with q | q
  · rw [q]
    have := hg.1
    rw [show 2 * (t / 2) = t by omega] at this
    exact this
  · rw [q]
    have := hg.2
    rw [show 2 * (t / 2) + 1 = t by omega] at this
    exact this
theorem OwF.ef {w : World} {base : Nat} {v : Value} {l : List (List UInt8 × Nat)} (h : OwF w base v l) (hne : l ≠ []) : ∃ g cap, v = .slice (some ⟨g, 0, none⟩) l.length cap ∧ base ≤ g ∧ Ef w g l := by
  rcases h.2 with ⟨_, e⟩ | ⟨g, cap, cur, e2, hb, hh, h1, h2, h3, h4⟩
  · exact absurd (List.length_eq_zero_iff.1 e) hne
  · refine ⟨g, cap, e2, hb, fun t ht => ?_, cur, hh⟩
    rw [size_flatK] at ht
    have ht' : t < l.length * 2 := by simpa using ht
    refine ⟨?_, frozen_of_heap hh⟩
    rw [cell_of_heap hh, Nat.zero_add]
    have e := flat_get l t ht'
    rw [← h4, List.getElem?_take_of_lt ht'] at e
    simpa using e
theorem Ef.at {w : World} {g : Nat} {l : List (List UInt8 × Nat)} (h : Ef w g l) {j : Nat} {e : List UInt8 × Nat} (he : l[j]? = some e) : w.cell? ⟨g, 2 * j, none⟩ = some (tx e.1) ∧ w.cell? ⟨g, 2 * j + 1, none⟩ = some (.int .i64 (e.2 : Int)) := by
  have hj : j < l.length := (List.getElem?_eq_some_iff.1 he).1
  have hc := cellsF_get he
  have a1 := (h.1 (2 * j) (by rw [size_flatK]; simp; omega)).1
  have a2 := (h.1 (2 * j + 1) (by rw [size_flatK]; simp; omega)).1
  rw [Nat.zero_add] at a1 a2
  have f1 := flat_get l (2 * j) (by omega)
  have f2 := flat_get l (2 * j + 1) (by omega)
  rw [hc.1] at f1
  rw [hc.2] at f2
  rw [a1, a2]
  exact ⟨f1.symm, f2.symm⟩
theorem Ef.keep {w w' : World} {g : Nat} {l : List (List UInt8 × Nat)} (h : Ef w g l) (hk : w'.heap[g]? = w.heap[g]?) : Ef w' g l := by
  obtain ⟨h1, cur, h2⟩ := h
  refine ⟨fun t ht => ?_, cur, hk.trans h2⟩
  have := h1 t ht
  exact ⟨(World.cell?_of_block (a := ⟨g, 0 + t, none⟩) hk).trans this.1, by unfold World.frozen?; rw [hk]; exact this.2⟩
/-- The sorted entries as a slice. -/
def Es2 (w : World) (base : Nat) (v : Value) (l : List (List UInt8 × Nat)) : Prop := (l = [] ∧ v = .slice none 0 0) ∨ (l ≠ [] ∧ ∃ g cap, v = .slice (some ⟨g, 0, none⟩) l.length cap ∧ base ≤ g ∧ Ef w g l)
theorem ins_none (w : World) (fv : Value) :
    Calls Tryz.prog 195 #[.slice none 0 0, .int .i64 0, .int .i64 0, fv] w fun e w' => e = .returned (.tuple #[]) ∧ w' = w := by
  go_enter Tryz.func195, Tryz.ntmps195
  go_wp2
  go_loopw [8] (fun i wr => i = .int .i64 1 ∧ wr = w) (fun _ _ => 0)
  case atStart => exact ⟨rfl, rfl⟩
  case round =>
    obtain ⟨rfl, rfl⟩ := hrel
    go_wp2
    go_end0
    exact ⟨rfl, by trivial⟩
set_option maxHeartbeats 2000000 in
set_option maxRecDepth 100000 in
theorem stable_none (w : World) (fv : Value) :
    Calls Tryz.prog 180 #[.slice none 0 0, .int .i64 0, fv] w fun e w' => e = .returned (.tuple #[]) ∧ w' = w := by
  have hI := ins_none w fv
  go_enter Tryz.func180, Tryz.ntmps180
  go_wp2
  go_loopw [7, 8] (fun a b wr => a = .int .i64 0 ∧ b = .int .i64 20 ∧ wr = w) (fun _ _ _ => 0)
  case atStart => exact ⟨rfl, rfl, rfl⟩
  case round =>
    obtain ⟨rfl, rfl, rfl⟩ := hrel
    go_wp2_with fail
    refine hI.mono ?_
    rintro e w1 ⟨rfl, hw⟩
    rw [hw]
    clear hw hI
    go_wp2
    go_loopw [6] (fun b wr2 => b = .int .i64 20 ∧ wr2 = wr) (fun _ _ => 0)
    case atStart => exact ⟨rfl, rfl⟩
    case round =>
      obtain ⟨rfl, rfl⟩ := hrel
      go_wp2
      go_end0
      exact ⟨rfl, by trivial⟩
theorem srt_nil : srt [] = [] := List.length_eq_zero_iff.1 (by rw [(srt_facts []).1]; rfl)
set_option maxHeartbeats 2000000 in
theorem sortst_nil (w : World) :
    Calls Tryz.prog 151 #[.slice none 0 0, .func (.func 152) #[] #[]] w fun e w' => e = .returned (.tuple #[]) ∧ w' = w := by
  have hS := stable_none w (.func (.func 152) #[] #[])
  go_enter Tryz.func151, Tryz.ntmps151
  go_wp2_with fail
  refine hS.mono ?_
  rintro e w1 ⟨rfl, hw⟩
  rw [hw]
  clear hw hS
  go_wp2
  go_end0
  exact ⟨rfl, rfl⟩
set_option maxHeartbeats 2000000 in
theorem sortst_at {w : World} {g cap : Nat} (l : List (List UInt8 × Nat)) (h : Ef w g l) (hl : l.length < 20) :
    Calls Tryz.prog 151 #[.slice (some ⟨g, 0, none⟩) l.length cap, .func (.func 152) #[] #[]] w fun e w' => e = .returned (.tuple #[]) ∧ Ef w' g (srt l) ∧ Upd g w w' := by
  have hS := stable_at l cap h hl
  clear h
  obtain ⟨n, hn⟩ : ∃ n, n = l.length := ⟨_, rfl⟩
  rw [← hn] at hS ⊢
  clear hn
  generalize hsl : srt l = sl at *
  clear hsl
  go_enter Tryz.func151, Tryz.ntmps151
  go_wp2_with fail
  refine hS.mono ?_
  rintro e w1 ⟨rfl, hE, hu⟩
  have HQ : Hid (Ef w1 g sl ∧ Upd g w w1) := ⟨hE, hu⟩
  clear hS hE hu
  go_wp2
  go_end0
  exact ⟨rfl, HQ.out⟩
/-- Names and numbers one by one. -/
def prs (l : List Ent) : List (List UInt8 × Nat) := l.map (fun e => (e.name, e.to))
theorem prs_len (l : List Ent) : (prs l).length = l.length := by simp [prs]
set_option maxHeartbeats 4000000 in
set_option maxRecDepth 100000 in
theorem sorted_at {w : World} {base : Nat} {v u : Value} (l : List Ent) (hT : Ts w base v (l.map Ent.name)) (hN : Ns w base u (l.map Ent.to)) (hl : l.length < 20) :
    Calls Tryz.prog 97 #[v, u] w fun e w' => ∃ r, e = .returned r ∧ Es2 w' w.heap.size r (srt (prs l)) ∧ Below w.heap.size w w' := by
  obtain ⟨i0, hi0, hzz⟩ := Option.map_eq_some_iff.1 entrInfo
  simp only [Prod.mk.injEq] at hzz
  obtain ⟨hz0, hz1, hz2⟩ := hzz
  obtain ⟨a, cap, rfl, -⟩ := hT.form
  obtain ⟨b, cap2, rfl, -⟩ := hN.form
  simp only [List.length_map] at *
  obtain ⟨sl, hsl⟩ : ∃ sl, sl = srt (prs l) := ⟨_, rfl⟩
  have HSq : Hid (sl = srt (prs l)) := hsl
  rw [← hsl]
  clear hsl
  have HT : Hid (Ts w base (.slice a l.length cap) (l.map Ent.name)) := hT
  have HN : Hid (Ns w base (.slice b l.length cap2) (l.map Ent.to)) := hN
  obtain ⟨n, hn⟩ : ∃ n, n = l.length := ⟨_, rfl⟩
  have Hn : Hid (n = l.length) := hn
  rw [← hn] at HT HN hl ⊢
  clear hT hN hn
  go_enter Tryz.func97, Tryz.ntmps97
  go_wp2
  go_loopw [5, 10] (fun s5 s10 wr => ∃ (k : Nat) (x : Value), k ≤ n ∧ s10 = .int .i64 k ∧ x = s5 ∧ OwF wr w.heap.size x (prs (l.take k)) ∧ (k = 0 → x = .slice none 0 0) ∧ Below w.heap.size w wr) (fun _ s _ => n - (RowKit.intOf s).toNat)
  case atStart => exact ⟨0, _, by omega, rfl, rfl, World.ownsRow_nil _ _ _ _, fun _ => rfl, Below.refl _ _⟩
  case round =>
    obtain ⟨k, x, hk, rfl, rfl, hown, hx0, hb⟩ := hrel
    by_cases hlt : k < n
    · have hkl : k < l.length := by have := Hn.out; omega
      have hki : (k : Int) < (n : Int) := by omega
      obtain ⟨g1, rfl, c1, -⟩ := (HT.out.below (by exact ⟨hb.os, hb.tape, hb.output, hb.size, fun j hj => hb.block j hj⟩)).at (j := k) (t := l[k].name) (by rw [List.getElem?_map, List.getElem?_eq_getElem hkl]; rfl)
      obtain ⟨g2, rfl, c2, -⟩ := (HN.out.below (by exact ⟨hb.os, hb.tape, hb.output, hb.size, fun j hj => hb.block j hj⟩)).at (j := k) (x := l[k].to) (by rw [List.getElem?_map, List.getElem?_eq_getElem hkl]; rfl)
      obtain ⟨s, hs⟩ : ∃ s, s = l[k].name := ⟨_, rfl⟩
      obtain ⟨t, ht⟩ : ∃ t, t = l[k].to := ⟨_, rfl⟩
      rw [← hs] at c1
      rw [← ht] at c2
      have HSt : Hid (s = l[k].name ∧ t = l[k].to) := ⟨hs, ht⟩
      have hpl : (prs (l.take k)).length = k := by rw [prs_len, List.length_take]; omega
      have HOw : Hid (wr.ownsRow w.heap.size 157 2 x k (cellsF (prs (l.take k)))) := by
        have h1 : wr.ownsRow w.heap.size 157 2 x (prs (l.take k)).length (cellsF (prs (l.take k))) := hown
        rw [hpl] at h1
        exact h1
      have hbs := hb.size
      have HB : Hid (Below w.heap.size w wr) := hb
      clear hs ht hown hpl hx0 hb
      go_wp2_with (first
        | (at_builtin; go_loud (refine wpList_append_lies _ rfl _ _ _ rfl w.heap.size 157 i0 _ 2 24 Tryz.underlying151 hi0 hz0 hz1 hz2 rfl (by omega) x k (cellsF (prs (l.take k))) rfl (World.ownsRow.alloc HOw.out _) ⟨wr.heap.size, 0, none⟩ 1 1 [tx s, .int .i64 (t : Int)] rfl rfl (World.news_of_block (cs := #[tx s, .int .i64 (t : Int)]) (t := 157) (fr := (0, 0)) (heap_alloc_new wr _)) (by simp [Value.oneCell']) (by omega) (by unfold maxLen; omega) (by omega) (by simp; omega) _ rfl ?_; intro gg cap3 w2 hown2 hgrow hat hlt2))
        | go_in)
      go_roundw
      case rel =>
        refine ⟨k + 1, _, by omega, by go_num, rfl, ?_, fun h => by omega, (HB.out.trans ((below_alloc wr _).mono HB.out.size)).trans (below_grown hgrow (by simp; omega) (ownsRow_low HOw.out))⟩
        have e1 : prs (l.take (k + 1)) = prs (l.take k) ++ [(s, t)] := by
          rw [List.take_add_one, List.getElem?_eq_getElem hkl, prs, List.map_append, HSt.out.1, HSt.out.2]
          rfl
        have e2 : (prs (l.take (k + 1))).length = k + 1 := by rw [prs_len, List.length_take]; omega
        show World.ownsRow _ _ _ _ _ _ _
        rw [e2, e1, cellsF_app]
        exact hown2
      case measure => simp [RowKit.intOf]; omega
    · obtain rfl : k = n := by omega
      have e1 : l.take k = l := by rw [List.take_of_length_le]; have := Hn.out; omega
      rw [e1] at hown
      by_cases hne : l = []
      · have hk0 : k = 0 := by rw [Hn.out, hne]; rfl
        have hx := hx0 hk0
        subst hx
        have HNe : Hid (l = []) := hne
        have HB : Hid (Below w.heap.size w wr) := hb
        have hS := sortst_nil wr
        clear hown hx0 hb e1 hne hk0
        go_wp2_with fail
        refine hS.mono ?_
        rintro e w1 ⟨rfl, hw⟩
        rw [hw]
        clear hw hS
        go_wp2
        go_ret
        exact ⟨_, rfl, Or.inl ⟨by rw [HSq.out, HNe.out]; exact srt_nil, rfl⟩, HB.out⟩
      · have hne2 : prs l ≠ [] := fun e => hne (List.length_eq_zero_iff.1 (by rw [← prs_len, e]; rfl))
        obtain ⟨g, cp, rfl, hgb, hE⟩ := OwF.ef hown hne2
        have hS := sortst_at (cap := cp) (prs l) hE (by rw [prs_len, ← Hn.out]; exact hl)
        have HLq : Hid ((prs l).length = k) := by show _ = _; rw [prs_len, Hn.out]
        have HSl : Hid ((srt (prs l)).length = k) := by show _ = _; rw [(srt_facts _).1]; exact HLq.out
        have HB : Hid (Below w.heap.size w wr) := hb
        have HNe : Hid (srt (prs l) ≠ []) := fun e => by
          have := (srt_facts (prs l)).1
          rw [e] at this
          exact hne2 (List.length_eq_zero_iff.1 this.symm)
        rw [HLq.out] at hS ⊢
        clear hown hx0 hb e1 hne hne2 hE
        rw [← HSq.out] at hS HSl HNe
        go_wp2_with fail
        refine hS.mono ?_
        rintro e w1 ⟨rfl, hE, hu⟩
        have HQ : Hid (Ef w1 g sl ∧ Upd g wr w1) := ⟨hE, hu⟩
        clear hS hE hu
        go_wp2
        go_ret
        obtain ⟨hE, hu⟩ := HQ.out
        exact ⟨_, rfl, Or.inr ⟨HNe.out, g, cp, by rw [HSl.out]; rfl, hgb, hE⟩, HB.out.trans (hu.below hgb HB.out.size)⟩
end Go.Proofs.YtcjpahnlckfgoaaGreatDoor
