/- The reference of package procs in the heap: Pid, Live, Parent, Begin, Fork. -/
import Derived.Test.YtfcpcncafopobaaPcX
import Derived.Laws.StructEq
namespace Go.Proofs.Ytfcpcncafopobaa
open Go.RowKit Go.Lib
set_option linter.unusedVariables false

/-- What the reference's row says of a pid. -/
structure Tr where
  is : Int
  par : Int
  st : Int
abbrev TS := Nat → Tr
def TS.cell (T : TS) (j : Nat) : Int := if j % 3 = 0 then (T (j / 3)).is else if j % 3 = 1 then (T (j / 3)).par else (T (j / 3)).st
def rqL (T : TS) : List Int := (List.range 24).map T.cell
def TS.set (T : TS) (i : Nat) (t : Tr) : TS := fun j => if j = i then t else T j
theorem rq_get (T : TS) {j : Nat} (hj : j < 24) : (rqL T)[j]? = some (T.cell j) := by simp [rqL, hj]
theorem cell_0 (T : TS) (i : Nat) : T.cell (i * 3) = (T i).is := by
  unfold TS.cell
  rw [if_pos (by omega), show i * 3 / 3 = i by omega]
theorem cell_1 (T : TS) (i : Nat) : T.cell (i * 3 + 1) = (T i).par := by
  unfold TS.cell
  rw [if_neg (by omega), if_pos (by omega), show (i * 3 + 1) / 3 = i by omega]
theorem cell_2 (T : TS) (i : Nat) : T.cell (i * 3 + 2) = (T i).st := by
  unfold TS.cell
  rw [if_neg (by omega), if_neg (by omega), show (i * 3 + 2) / 3 = i by omega]
theorem rq_set {T U : TS} {j : Nat} {x : Int} (h : ∀ k, k < 24 → U.cell k = if k = j then x else T.cell k) : (rqL T).set j x = rqL U := by
  apply List.ext_getElem?
  intro k
  rw [List.getElem?_set]
  by_cases hk : k < 24
  · rw [rq_get U hk, rq_get T hk, h k hk]
    by_cases e : j = k
    · rw [if_pos e, if_pos e.symm, if_pos (by simp [rqL]; omega)]
    · rw [if_neg e, if_neg (fun q => e q.symm)]
  · have h1 : (rqL T)[k]? = none := List.getElem?_eq_none (by simp [rqL]; omega)
    have h2 : (rqL U)[k]? = none := List.getElem?_eq_none (by simp [rqL]; omega)
    rw [h1, h2]
    by_cases e : j = k
    · rw [if_pos e, if_neg (by simp [rqL]; omega)]
    · rw [if_neg e]
theorem TS.set_same (T : TS) (i : Nat) (t : Tr) : T.set i t i = t := by unfold TS.set; rw [if_pos rfl]
theorem TS.set_other {T : TS} {i j : Nat} (t : Tr) (h : j ≠ i) : T.set i t j = T j := by unfold TS.set; rw [if_neg h]
theorem set_cell (T : TS) (i j : Nat) (t : Tr) (hj : j / 3 ≠ i) : (T.set i t).cell j = T.cell j := by
  unfold TS.cell
  rw [TS.set_other t hj]
/-- Block b holds this row. -/
def RT (w : World) (b : Nat) (T : TS) : Prop := w.heap[b]? = some (.cells (irow (rqL T)) 30)
section
variable {w w' : World} {b : Nat} {T : TS}
theorem RT.lt (h : RT w b T) : b < w.heap.size := lt_of_heap h
theorem RT.keep (h : RT w b T) (hb : w'.heap[b]? = w.heap[b]?) : RT w' b T := hb.trans h
theorem RT.below (h : RT w b T) (hb : Below w.heap.size w w') : RT w' b T := h.keep (hb.block _ h.lt)
theorem RT.drew (h : RT w b T) : RT w.drew b T := h
theorem RT.is (h : RT w b T) {i : Nat} (hi : i < 8) : w.cell? ⟨b, i * 3, none⟩ = some (.int .i64 (T i).is) := by rw [irow_cell h (rq_get T (show i * 3 < 24 by omega)), cell_0]
theorem RT.par (h : RT w b T) {i : Nat} (hi : i < 8) : w.cell? ⟨b, i * 3 + 1, none⟩ = some (.int .i64 (T i).par) := by rw [irow_cell h (rq_get T (show i * 3 + 1 < 24 by omega)), cell_1]
theorem RT.st (h : RT w b T) {i : Nat} (hi : i < 8) : w.cell? ⟨b, i * 3 + 2, none⟩ = some (.int .i64 (T i).st) := by rw [irow_cell h (rq_get T (show i * 3 + 2 < 24 by omega)), cell_2]
theorem RT.free (h : RT w b T) (j : Nat) : w.frozen? ⟨b, j, none⟩ = false := frozen_of_heap h
theorem RT.setj (h : RT w b T) {U : TS} {j : Nat} {x : Int} (hu : ∀ k, k < 24 → U.cell k = if k = j then x else T.cell k) : RT (w.setCell ⟨b, j, none⟩ (.int .i64 x)) b U := by
  unfold RT
  rw [setCell_eq h, irow_set, rq_set hu]
theorem RT.set0 (h : RT w b T) {i : Nat} (x : Int) : RT (w.setCell ⟨b, i * 3, none⟩ (.int .i64 x)) b (T.set i ⟨x, (T i).par, (T i).st⟩) := by
  refine h.setj (fun k hk => ?_)
  by_cases e : k = i * 3
  · rw [e, if_pos rfl, cell_0, TS.set_same]
  · rw [if_neg e]
    by_cases e2 : k / 3 = i
    · rcases (by omega : k = i * 3 + 1 ∨ k = i * 3 + 2) with e3 | e3
      · rw [e3, cell_1, cell_1, TS.set_same]
      · rw [e3, cell_2, cell_2, TS.set_same]
    · exact set_cell T i k _ e2
theorem RT.set1 (h : RT w b T) {i : Nat} (x : Int) : RT (w.setCell ⟨b, i * 3 + 1, none⟩ (.int .i64 x)) b (T.set i ⟨(T i).is, x, (T i).st⟩) := by
  refine h.setj (fun k hk => ?_)
  by_cases e : k = i * 3 + 1
  · rw [e, if_pos rfl, cell_1, TS.set_same]
  · rw [if_neg e]
    by_cases e2 : k / 3 = i
    · rcases (by omega : k = i * 3 ∨ k = i * 3 + 2) with e3 | e3
      · rw [e3, cell_0, cell_0, TS.set_same]
      · rw [e3, cell_2, cell_2, TS.set_same]
    · exact set_cell T i k _ e2
theorem RT.set2 (h : RT w b T) {i : Nat} (x : Int) : RT (w.setCell ⟨b, i * 3 + 2, none⟩ (.int .i64 x)) b (T.set i ⟨(T i).is, (T i).par, x⟩) := by
  refine h.setj (fun k hk => ?_)
  by_cases e : k = i * 3 + 2
  · rw [e, if_pos rfl, cell_2, TS.set_same]
  · rw [if_neg e]
    by_cases e2 : k / 3 = i
    · rcases (by omega : k = i * 3 ∨ k = i * 3 + 1) with e3 | e3
      · rw [e3, cell_0, cell_0, TS.set_same]
      · rw [e3, cell_1, cell_1, TS.set_same]
    · exact set_cell T i k _ e2
theorem TS.set_set (T : TS) (i : Nat) (s t : Tr) : (T.set i s).set i t = T.set i t := by
  funext j
  unfold TS.set
  by_cases e : j = i
  · rw [if_pos e, if_pos e]
  · rw [if_neg e, if_neg e, if_neg e]
theorem RT.put3 (h : RT w b T) {i : Nat} (x y z : Int) : RT (w.setCells b (i * 3) [.int .i64 x, .int .i64 y, .int .i64 z]) b (T.set i ⟨x, y, z⟩) := by
  have h1 := h.set0 (i := i) x
  have h2 := h1.set1 (i := i) y
  have h3 := h2.set2 (i := i) z
  rw [TS.set_set, TS.set_set, TS.set_same, TS.set_same] at h3
  exact h3
theorem RT.there (h : RT w b T) {i : Nat} (hi : i < 8) : w.there b (i * 3) 3 := fun j hj => by
  refine ⟨?_, h.free _⟩
  rw [irow_cell h (rq_get T (show i * 3 + j < 24 by omega))]
  rfl
end
theorem upd_sets (b : Nat) : ∀ (vs : List Value) (o : Nat) (w : World), Upd b w (w.setCells b o vs)
  | [], _, w => Upd.refl b w
  | v :: r, o, w => (Upd.setCell b o w v).trans (upd_sets b r (o + 1) _)
theorem trSize : (Try.prog.info? 27).map (·.size) = some 3 := by kernel_rfl
/-- What processes are as a row. -/
def trO : Option Pr → Tr
  | none => ⟨0, 0, 0⟩
  | some p => ⟨if p.zom = true then 2 else 1, p.par, p.st⟩
def trS (S : St) : TS := fun i => trO (S ((i : Int) + 1))
theorem tr_set (S : St) (i : Nat) (p : Pr) : (trS S).set i (trO (some p)) = trS (stPut S ((i : Int) + 1) p) := by
  funext j
  unfold TS.set trS
  by_cases e : j = i
  · rw [if_pos e, e, stPut_same]
  · rw [if_neg e, stPut_other _ (by omega)]
theorem tr_del (S : St) (i : Nat) : (trS S).set i ⟨0, 0, 0⟩ = trS (stDel S ((i : Int) + 1)) := by
  funext j
  unfold TS.set trS stDel
  by_cases e : j = i
  · rw [if_pos e, e, if_pos rfl]; rfl
  · rw [if_neg e, if_neg (by omega)]
def isP (n : Int) : Bool := decide (1 ≤ n) && decide (n ≤ 8)
theorem isP_yes {n : Int} (h : isP n = true) : 1 ≤ n ∧ n ≤ 8 := by
  unfold isP at h
  simpa using h
theorem isP_no {n : Int} (h : isP n = false) : n < 1 ∨ 8 < n := by
  unfold isP at h
  simp at h
  omega
theorem rpid_at (n : Int) (w : World) :
    Calls Try.prog 41 #[.int .i64 n] w fun e w' => e = .returned (.bool (isP n)) ∧ w' = w := by
  by_cases h0 : 1 ≤ n
  · have g0 : decide (1 ≤ n) = true := decide_eq_true h0
    have HB : Hid (isP n = decide (n ≤ 8)) := by show _ = _; simp [isP, h0]
    go_enter Try.func41, Try.ntmps41
    go_wp2
    all_goals
      go_ret
      exact ⟨by rw [HB.out]; simp_all, rfl⟩
  · have g0 : decide (1 ≤ n) = false := decide_eq_false h0
    have HB : Hid (isP n = false) := by show _ = _; simp [isP, h0]
    go_enter Try.func41, Try.ntmps41
    go_wp2
    all_goals
      go_ret
      exact ⟨by rw [HB.out]; rfl, rfl⟩
/-- Does one live, by the row? -/
def livT (T : TS) (k : Int) : Bool := isP k && ((T (k - 1).toNat).is == 1)
theorem livT_S {S : St} (hd : Dom S) (k : Int) : livT (trS S) k = liv S k := by
  unfold livT
  cases hp : isP k with
  | false =>
    have hn : S k = none := hd.none (isP_no hp)
    unfold liv hits
    rw [hn]
    rfl
  | true =>
    obtain ⟨h1, h8⟩ := isP_yes hp
    unfold trS
    rw [show (((k - 1).toNat : Nat) : Int) + 1 = k by omega]
    unfold liv hits
    cases e : S k with
    | none => rfl
    | some p => cases hz : p.zom <;> simp [trO, hz]
theorem rlive_at (b : Nat) (T : TS) (k : Int) (w : World) (h : RT w b T) :
    Calls Try.prog 20 #[ptr b, .int .i64 k] w fun e w' => e = .returned (.bool (livT T k)) ∧ w' = w := by
  have hp := rpid_at k w
  cases hP : isP k with
  | false =>
    have HR : Hid (livT T k = false) := by show _ = _; unfold livT; rw [hP]; rfl
    rw [hP] at hp
    clear h hP
    go_enter Try.func20, Try.ntmps20
    go_wp2_with fail
    refine hp.mono ?_
    rintro e w1 ⟨rfl, hw⟩
    rw [hw]
    clear hw w1 hp
    go_wp2
    go_ret
    exact ⟨by rw [HR.out]; rfl, rfl⟩
  | true =>
    obtain ⟨h1, h8⟩ := isP_yes hP
    obtain ⟨i, hi⟩ : ∃ i : Nat, (i : Int) = k - 1 := ⟨(k - 1).toNat, by omega⟩
    have hi8 : i < 8 := by omega
    have c0 := h.is hi8
    have HR : Hid (livT T k = ((T i).is == 1)) := by show _ = _; unfold livT; rw [hP, show (k - 1).toNat = i by omega]; rfl
    have hw1 : IntKind.i64.wrap (k - 1) = (i : Int) := by rw [← hi]; simp [IntKind.wrap, IntKind.bits, IntKind.signed]; omega
    have n0 : (0 : Int) ≤ (i : Int) := by omega
    have n1 : (i : Int) < 8 := by omega
    rw [hP] at hp
    clear h hP hi
    go_enter Try.func20, Try.ntmps20
    go_wp2_with fail
    refine hp.mono ?_
    rintro e w1 ⟨rfl, hw⟩
    rw [hw]
    clear hw w1 hp
    go_wp2
    go_ret
    exact ⟨by rw [HR.out]; rfl, rfl⟩
theorem rparent_at (b : Nat) (S : St) (k : Int) (w : World) (h : RT w b (trS S)) (hd : Dom S) :
    Calls Try.prog 22 #[ptr b, .int .i64 k] w fun e w' => e = .returned (.int .i64 (parI S k)) ∧ w' = w := by
  have hp := rpid_at k w
  cases hP : isP k with
  | false =>
    have HR : Hid (parI S k = -1) := by show _ = _; unfold parI; rw [hd.none (isP_no hP)]
    rw [hP] at hp
    clear h hP hd
    go_enter Try.func22, Try.ntmps22
    go_wp2_with fail
    refine hp.mono ?_
    rintro e w1 ⟨rfl, hw⟩
    rw [hw]
    clear hw w1 hp
    go_wp2
    go_ret
    exact ⟨by rw [HR.out]; rfl, rfl⟩
  | true =>
    obtain ⟨h1, h8⟩ := isP_yes hP
    obtain ⟨i, hi⟩ : ∃ i : Nat, (i : Int) = k - 1 := ⟨(k - 1).toNat, by omega⟩
    have hi8 : i < 8 := by omega
    have c0 := h.is hi8
    have c1 := h.par hi8
    have hw1 : IntKind.i64.wrap (k - 1) = (i : Int) := by rw [← hi]; simp [IntKind.wrap, IntKind.bits, IntKind.signed]; omega
    have n0 : (0 : Int) ≤ (i : Int) := by omega
    have n1 : (i : Int) < 8 := by omega
    have hT : trS S i = trO (S k) := by unfold trS; rw [show (i : Int) + 1 = k by omega]
    rw [hT] at c0 c1
    rw [hP] at hp
    cases hS : S k with
    | none =>
      have HR : Hid (parI S k = -1) := by show _ = _; unfold parI; rw [hS]
      rw [hS] at c0 c1
      unfold trO at c0 c1
      dsimp only at c0 c1
      clear h hP hi hd hT hS
      go_enter Try.func22, Try.ntmps22
      go_wp2_with fail
      refine hp.mono ?_
      rintro e w1 ⟨rfl, hw⟩
      rw [hw]
      clear hw w1 hp
      go_wp2
      go_ret
      exact ⟨by rw [HR.out]; rfl, rfl⟩
    | some p =>
      have HR : Hid (parI S k = p.par) := by show _ = _; unfold parI; rw [hS]
      rw [hS] at c0 c1
      unfold trO at c0 c1
      dsimp only at c0 c1
      obtain ⟨z, hz⟩ : ∃ z : Int, z = (if p.zom = true then 2 else 1) := ⟨_, rfl⟩
      rw [← hz] at c0
      have g0 : (z == 0) = false := beq_false_of_ne (by rw [hz]; split <;> omega)
      clear h hP hi hd hT hS hz
      go_enter Try.func22, Try.ntmps22
      go_wp2_with fail
      refine hp.mono ?_
      rintro e w1 ⟨rfl, hw⟩
      rw [hw]
      clear hw w1 hp
      go_wp2
      go_ret
      exact ⟨by rw [HR.out]; rfl, rfl⟩
set_option maxRecDepth 100000 in
set_option maxHeartbeats 2000000 in
theorem rfork_at (b : Nat) (S : St) (k : Int) (w : World) (h : RT w b (trS S)) (hd : Dom S) :
    Calls Try.prog 12 #[ptr b, .int .i64 k] w fun e w' => e = .returned (.tuple #[.int .i64 (fkN S k), .int .i64 (fkE S k)]) ∧ RT w' b (trS (fkS S k)) ∧ Upd b w w' := by
  have hv := rlive_at b (trS S) k w h
  rw [livT_S hd] at hv
  have HH : Hid (RT w b (trS S)) := h
  cases hk : liv S k with
  | false =>
    have HR : Hid (fkE S k = 3 ∧ fkN S k = 0 ∧ fkS S k = S) := by
      have e : fkE S k = 3 := by unfold fkE; rw [hk, if_neg (by simp)]
      refine ⟨e, ?_, ?_⟩
      · unfold fkN; rw [e, if_neg (by decide)]
      · unfold fkS; rw [e, if_neg (by decide)]
    rw [hk] at hv
    clear h hk
    go_enter Try.func12, Try.ntmps12
    go_wp2_with fail
    refine hv.mono ?_
    rintro e w1 ⟨rfl, hw⟩
    rw [hw]
    clear hw w1 hv
    go_wp2
    go_ret2
    obtain ⟨e1, e2, e3⟩ := HR.out
    exact ⟨by rw [e1, e2]; rfl, by rw [e3]; exact HH.out, Upd.refl _ _⟩
  | true =>
    have HLv : Hid (liv S k = true) := hk
    rw [hk] at hv
    clear h hk hd
    go_enter Try.func12, Try.ntmps12
    go_wp2_with fail
    refine hv.mono ?_
    rintro e w1 ⟨rfl, hw⟩
    rw [hw]
    clear hw w1 hv
    go_wp2
    go_loopw [6] (fun s wr => ∃ i : Nat, i ≤ 8 ∧ s = .int .i64 i ∧ lowF S (8 - i) ((i : Int) + 1) = lowI S ∧ wr = w) (fun s _ => 8 - (intOf s).toNat)
    case atStart => exact ⟨0, by omega, rfl, rfl, rfl⟩
    case round =>
      obtain ⟨i, hi, rfl, hlow, hw⟩ := hrel
      subst hw
      have HLo : Hid (lowF S (8 - i) ((i : Int) + 1) = lowI S) := hlow
      clear hlow
      by_cases hlt : i < 8
      · have i1 : decide ((i : Int) < 8) = true := decide_eq_true (by omega)
        have n1 : (i : Int) < 8 := by omega
        have n0 : (0 : Int) ≤ (i : Int) := by omega
        have c0 := HH.out.is hlt
        rw [show trS S i = trO (S ((i : Int) + 1)) from rfl] at c0
        rw [show 8 - i = (8 - (i + 1)) + 1 by omega] at HLo
        cases hS : S ((i : Int) + 1) with
        | none =>
          rw [hS] at c0
          unfold trO at c0
          dsimp only at c0
          have hl : lowI S = (i : Int) + 1 := by
            rw [← HLo.out]
            show (if (S ((i : Int) + 1)).isSome = true then _ else _) = _
            rw [hS, if_neg (by simp)]
          have HR : Hid (fkE S k = 0 ∧ fkN S k = (i : Int) + 1 ∧ fkS S k = stPut S ((i : Int) + 1) ⟨k, false, 0⟩) := by
            have e : fkE S k = 0 := by unfold fkE; rw [HLv.out, if_pos rfl, if_neg (by omega)]
            refine ⟨e, ?_, ?_⟩
            · unfold fkN; rw [e, if_pos rfl, hl]
            · unfold fkS; rw [e, if_pos rfl, hl]
          have hth : wr.there b (i * 3) 3 := HH.out.there hlt
          have HP : Hid (RT (wr.setCells b (i * 3) [.int .i64 1, .int .i64 k, .int .i64 0]) b (trS (stPut S ((i : Int) + 1) ⟨k, false, 0⟩))) := by
            have := HH.out.put3 (i := i) 1 k 0
            rw [show (⟨1, k, 0⟩ : Tr) = trO (some ⟨k, false, 0⟩) from rfl, tr_set] at this
            exact this
          have HU : Hid (Upd b wr (wr.setCells b (i * 3) [.int .i64 1, .int .i64 k, .int .i64 0])) := upd_sets _ _ _ _
          obtain ⟨W, hW⟩ : ∃ W, W = wr.setCells b (i * 3) [.int .i64 1, .int .i64 k, .int .i64 0] := ⟨_, rfl⟩
          rw [← hW] at HP HU
          have HW : Hid _ := hW
          clear hS hl hW
          go_wp2_with (first | (refine wpList_store_mid rfl 27 _ _ rfl b (i * 3) #[.int .i64 1, .int .i64 k, .int .i64 0] rfl rfl hth trSize (by simp [Value.oneCell']) ?_; rw [show (#[.int .i64 1, .int .i64 k, .int .i64 0] : Array Value).toList = [.int .i64 1, .int .i64 k, .int .i64 0] from rfl, ← HW.out]) | go_in)
          go_ret2
          obtain ⟨e1, e2, e3⟩ := HR.out
          refine ⟨?_, by rw [e3]; exact HP.out, HU.out⟩
          rw [e1, e2]
          go_num
        | some p =>
          rw [hS] at c0
          unfold trO at c0
          dsimp only at c0
          obtain ⟨z, hz⟩ : ∃ z : Int, z = (if p.zom = true then 2 else 1) := ⟨_, rfl⟩
          rw [← hz] at c0
          have g0 : (z == 0) = false := beq_false_of_ne (by rw [hz]; split <;> omega)
          have HR : Hid (lowF S (8 - (i + 1)) (((i + 1 : Nat) : Int) + 1) = lowI S) := by
            show _ = lowI S
            rw [← HLo.out]
            show _ = (if (S ((i : Int) + 1)).isSome = true then lowF S (8 - (i + 1)) ((i : Int) + 1 + 1) else _)
            rw [hS, if_pos (by simp), show (((i + 1 : Nat) : Int) + 1) = (i : Int) + 1 + 1 by omega]
          clear hS hz
          go_wp2
          go_roundw
          case rel => exact ⟨i + 1, by omega, by go_num, HR.out, by first | rfl | trivial⟩
          case measure => simp [intOf]; omega
      · have i1 : decide ((i : Int) < 8) = false := decide_eq_false (by omega)
        have hl : lowI S = -1 := by rw [← HLo.out, show 8 - i = 0 by omega]; rfl
        have HR : Hid (fkE S k = 11 ∧ fkN S k = 0 ∧ fkS S k = S) := by
          have e : fkE S k = 11 := by unfold fkE; rw [HLv.out, if_pos rfl, if_pos hl]
          refine ⟨e, ?_, ?_⟩
          · unfold fkN; rw [e, if_neg (by decide)]
          · unfold fkS; rw [e, if_neg (by decide)]
        clear hl
        go_wp2
        go_ret2
        obtain ⟨e1, e2, e3⟩ := HR.out
        exact ⟨by rw [e1, e2]; rfl, by rw [e3]; exact HH.out, Upd.refl _ _⟩
end Go.Proofs.Ytfcpcncafopobaa
