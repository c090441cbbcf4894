/- Add, Give, Drop. -/
import Derived.Test.YtfnafjddajgahaaGreatCapG
namespace Go.Proofs.YtfnafjddajgahaaGreat
open Go.RowKit
namespace Ca
set_option linter.unusedVariables false

def addOK (n : Int) (x : Cp) : Bool := isE n && mayB x
def addA (T : Tab) (n : Int) (x : Cp) : Int := if addOK n x = true then putA T n.toNat else 0
def addR (T : Tab) (n : Int) (x : Cp) : Int := if addOK n x = true then putE T n.toNat else 101
def addT (T : Tab) (n : Int) (x : Cp) : Tab := if addOK n x = true then putT T n.toNat ⟨x, 0, 0⟩ else T

theorem add_nil (n : Int) (x : Cp) (w : World) :
    Calls Tryz.prog 56 #[.pointer none, .int .i64 n, .agg (cpRow x)] w fun e w' => e = .returned (.tuple #[.int .i64 0, .int .i64 101]) ∧ Below w.heap.size w w' := by
  obtain ⟨k, i, l, r⟩ := x
  dsimp only [cpRow]
  go_enter Tryz.func56, Tryz.ntmps56
  go_wp2
  go_ret2
  exact ⟨rfl, below_alloc _ _⟩

set_option maxHeartbeats 1000000 in
theorem add_at (b : Nat) (T : Tab) (n : Int) (x : Cp) (w : World) (h : CapsAt w b T) :
    Calls Tryz.prog 56 #[.pointer (some ⟨b, 0, none⟩), .int .i64 n, .agg (cpRow x)] w fun e w' => e = .returned (.tuple #[.int .i64 (addA T n x), .int .i64 (addR T n x)]) ∧ CapsAt w' b (addT T n x) ∧ Upd b w w' := by
  obtain ⟨W, hW⟩ : ∃ W, W = w.alloc (.cells (cpRow x) 95) := ⟨_, rfl⟩
  have HB : Hid (Below w.heap.size w W) := by rw [hW]; exact below_alloc _ _
  have HC : Hid (CapsAt W b T) := h.below HB.out
  have HI : Hid (W.heap[w.heap.size]? = some (.cells (cpRow x) 95)) := by rw [hW]; exact heap_alloc_new _ _
  have hE := isEnv_at n
  have hM := mayBe_at x
  have hlt := h.lt
  clear h
  cases hn : isE n with
  | false =>
    rw [hn] at hE
    have HA : Hid (addOK n x = false) := by show addOK n x = false; simp [addOK, hn]
    obtain ⟨k, i, l, r⟩ := x
    dsimp only [cpRow] at *
    clear hn hM
    go_enter Tryz.func56, Tryz.ntmps56
    go_wp2_with (go_at_call 90; refine (hE _).mono ?_; rintro e w1 ⟨rfl, hw1⟩; rw [hw1]; clear hw1 w1)
    go_ret2
    rw [← hW]
    refine ⟨?_, ?_, Upd.of_below HB.out⟩
    · simp [addA, addR, HA.out]
    · unfold addT
      rw [HA.out]
      exact HC.out
  | true =>
    rw [hn] at hE
    have hnn : n = (n.toNat : Int) ∧ n.toNat < 12 := by simp [isE] at hn; omega
    obtain ⟨m, hm, rfl⟩ : ∃ m : Nat, m < 12 ∧ n = m := ⟨n.toNat, hnn.2, hnn.1⟩
    clear hnn
    cases hx : mayB x with
    | false =>
      rw [hx] at hM
      have HA : Hid (addOK m x = false) := by show addOK m x = false; simp [addOK, hx]
      obtain ⟨c0, c1, c2, c3⟩ := cap_cells HI.out
      obtain ⟨k, i, l, r⟩ := x
      dsimp only [cpRow] at *
      clear hn hx
      go_enter Tryz.func56, Tryz.ntmps56
      go_wp2_with fail
      rw [← hW]
      clear hW
      refine (hE _).mono ?_
      rintro e w1 ⟨rfl, hw1⟩
      rw [hw1]
      clear hw1 w1
      go_wp2_with fail
      refine (hM _).mono ?_
      rintro e w1 ⟨rfl, hb1⟩
      go_wp2
      go_ret2
      refine ⟨?_, ?_, Upd.of_below (HB.out.trans (hb1.mono HB.out.size))⟩
      · simp [addA, addR, HA.out]
      · unfold addT
        rw [HA.out]
        exact HC.out.below hb1
    | true =>
      rw [hx] at hM
      have HA : Hid (addOK m x = true) := by show addOK m x = true; simp [addOK, hn, hx]
      have hp := fun W hC => put_at b T m ⟨x, 0, 0⟩ W hC hm
      obtain ⟨c0, c1, c2, c3⟩ := cap_cells HI.out
      have HI2 : Hid (∀ w1, Below W.heap.size W w1 → w1.heap[w.heap.size]? = some (.cells (cpRow x) 95)) := fun w1 hb1 => (hb1.block _ (lt_of_heap HI.out)).trans HI.out
      obtain ⟨k, i, l, r⟩ := x
      dsimp only [cpRow, hdRow] at *
      clear hn hx
      go_enter Tryz.func56, Tryz.ntmps56
      go_wp2_with fail
      rw [← hW]
      clear hW
      refine (hE _).mono ?_
      rintro e w1 ⟨rfl, hw1⟩
      rw [hw1]
      clear hw1 w1
      go_wp2_with fail
      refine (hM _).mono ?_
      rintro e w1 ⟨rfl, hb1⟩
      obtain ⟨d0, d1, d2, d3⟩ := cap_cells (x := ⟨k, i, l, r⟩) (HI2.out w1 hb1)
      dsimp only at d0 d1 d2 d3
      clear c0 c1 c2 c3
      go_wp2_with fail
      refine (hp w1 (HC.out.below hb1)).mono ?_
      rintro e w2 ⟨rfl, hC2, hU2⟩
      go_wp2
      go_ret2
      refine ⟨?_, ?_, (Upd.of_below (HB.out.trans (hb1.mono HB.out.size))).trans hU2⟩
      · simp [addA, addR, HA.out]
      · unfold addT
        rw [HA.out]
        exact hC2

def giveOK (T : Tab) (n s r : Int) : Bool := (getT T n s).is && mayG (getT T n s) r
def giveA (T : Tab) (n s to r : Int) : Int := if giveOK T n s r = true then (if isE to = true then putA T to.toNat else 0) else 0
def giveR (T : Tab) (n s to r : Int) : Int := if giveOK T n s r = true then (if isE to = true then putE T to.toNat else 101) else 104
def giveH (T : Tab) (n s r : Int) : Hd := ⟨⟨(getT T n s).kind, (getT T n s).id, (getT T n s).len, r⟩, n, s⟩
def giveT (T : Tab) (n s to r : Int) : Tab := if giveOK T n s r = true then (if isE to = true then putT T to.toNat (giveH T n s r) else T) else T

theorem give_nil (n s to r : Int) (w : World) :
    Calls Tryz.prog 70 #[.pointer none, .int .i64 n, .int .i64 s, .int .i64 to, .int .i64 r] w fun e w' => e = .returned (.tuple #[.int .i64 0, .int .i64 101]) ∧ w' = w := by
  go_enter Tryz.func70, Tryz.ntmps70
  go_wp2
  go_ret2
  exact ⟨rfl, rfl⟩

set_option maxHeartbeats 1000000 in
theorem give_at (b : Nat) (T : Tab) (n s to r : Int) (w : World) (h : CapsAt w b T) :
    Calls Tryz.prog 70 #[.pointer (some ⟨b, 0, none⟩), .int .i64 n, .int .i64 s, .int .i64 to, .int .i64 r] w fun e w' => e = .returned (.tuple #[.int .i64 (giveA T n s to r), .int .i64 (giveR T n s to r)]) ∧ CapsAt w' b (giveT T n s to r) ∧ Upd b w w' := by
  have hg := get_at b T n s w h
  have hG := fun W => mayGive_at (getT T n s) r W
  have hE := isEnv_at to
  have HH : Hid _ := h
  have HO : Hid (giveOK T n s r = ((getT T n s).is && mayG (getT T n s) r)) := rfl
  have HX : Hid (giveH T n s r = ⟨⟨(getT T n s).kind, (getT T n s).id, (getT T n s).len, r⟩, n, s⟩) := rfl
  have hlt := h.lt
  clear h
  generalize (getT T n s).is = B at *
  generalize mayG (getT T n s) r = C at *
  generalize getT T n s = x at *
  obtain ⟨k, i, l, q⟩ := x
  dsimp only [cpRow] at *
  go_enter Tryz.func70, Tryz.ntmps70
  go_wp2_with fail
  refine hg.mono ?_
  rintro e w1 ⟨rfl, hb1⟩
  clear hg
  obtain ⟨W, hW⟩ : ∃ W, W = w1.alloc (.cells #[.int .i64 k, .int .i64 i, .int .i64 l, .int .i64 q] 95) := ⟨_, rfl⟩
  have hbW : Below w1.heap.size w1 W := by rw [hW]; exact below_alloc _ _
  have HB : Hid (Below w.heap.size w W) := hb1.trans (hbW.mono hb1.size)
  have HI : Hid (W.heap[w1.heap.size]? = some (.cells (cpRow ⟨k, i, l, q⟩) 95)) := by rw [hW]; exact heap_alloc_new _ _
  have HC : Hid (CapsAt W b T) := HH.out.below HB.out
  have hlt1 : b < w1.heap.size := Nat.lt_of_lt_of_le hlt hb1.size
  have hs1 := hb1.size
  clear hbW hb1
  cases B with
  | false =>
    have HA : Hid (giveOK T n s r = false) := by rw [HO.out]; rfl
    clear HO
    go_wp2
    go_ret2
    rw [← hW]
    refine ⟨?_, ?_, Upd.of_below HB.out⟩
    · simp [giveA, giveR, HA.out]
    · unfold giveT
      rw [HA.out]
      exact HC.out
  | true =>
    obtain ⟨c0, c1, c2, c3⟩ := cap_cells HI.out
    dsimp only at c0 c1 c2 c3
    go_wp2_with fail
    rw [← hW]
    clear hW
    refine (hG W).mono ?_
    rintro e w2 ⟨rfl, hb2⟩
    clear hG c0 c1 c2 c3
    have HB2 : Hid (Below w.heap.size w w2) := HB.out.trans (hb2.mono HB.out.size)
    have HC2 : Hid (CapsAt w2 b T) := HC.out.below hb2
    have HI2 : Hid (w2.heap[w1.heap.size]? = some (.cells (cpRow ⟨k, i, l, q⟩) 95)) := (hb2.block _ (lt_of_heap HI.out)).trans HI.out
    clear hb2 HB HC HI
    cases C with
    | false =>
      have HA : Hid (giveOK T n s r = false) := by rw [HO.out]; rfl
      clear HO
      go_wp2
      go_ret2
      refine ⟨?_, ?_, Upd.of_below HB2.out⟩
      · simp [giveA, giveR, HA.out]
      · unfold giveT
        rw [HA.out]
        exact HC2.out
    | true =>
      have HA : Hid (giveOK T n s r = true) := by rw [HO.out]; rfl
      clear HO
      cases ht : isE to with
      | false =>
        rw [ht] at hE
        have HT : Hid _ := ht
        clear ht
        go_wp2_with (go_at_call 90; refine (hE _).mono ?_; rintro e w3 ⟨rfl, hw3⟩; rw [hw3]; clear hw3 w3)
        go_ret2
        refine ⟨?_, ?_, Upd.of_below HB2.out⟩
        · simp [giveA, giveR, HA.out, HT.out]
        · unfold giveT
          rw [HA.out, HT.out]
          exact HC2.out
      | true =>
        rw [ht] at hE
        have HT : Hid _ := ht
        obtain ⟨m, hm, rfl⟩ : ∃ m : Nat, m < 12 ∧ to = m := ⟨to.toNat, by simp [isE] at ht; omega, by simp [isE] at ht; omega⟩
        clear ht
        obtain ⟨c0, c1, c2, c3⟩ := cap_cells HI2.out
        dsimp only at c0 c1 c2 c3
        have f3 : w2.frozen? ⟨w1.heap.size, 3, none⟩ = false := frozen_of_heap HI2.out
        obtain ⟨w3, hw3⟩ : ∃ w3, w3 = w2.setCell ⟨w1.heap.size, 3, none⟩ (.int .i64 r) := ⟨_, rfl⟩
        have HU3 : Hid (Upd b w w3) := by
          rw [hw3]
          exact ⟨HB2.out.os, HB2.out.tape, HB2.out.output, by simpa [World.setCell] using HB2.out.size, fun k hk hb => (Below.heap_setCell _ _ _ _ (by show k ≠ w1.heap.size; omega)).trans (HB2.out.block k hk)⟩
        have HC3 : Hid (CapsAt w3 b T) := HC2.out.keep (by rw [hw3]; exact Below.heap_setCell _ _ _ _ (by show b ≠ w1.heap.size; omega))
        have hp := put_at b T m ⟨⟨k, i, l, r⟩, n, s⟩ w3 HC3.out hm
        dsimp only [hdRow] at hp
        have HW3 : Hid _ := hw3
        clear hw3
        go_wp2_with (first | (go_at_call 90; refine (hE _).mono ?_; rintro e w3 ⟨rfl, hw3⟩; rw [hw3]; clear hw3 w3) | (go_at_call 92; rw [← HW3.out]; refine hp.mono ?_; rintro e w4 ⟨rfl, hC4, hU4⟩))
        go_ret2
        refine ⟨?_, ?_, HU3.out.trans hU4⟩
        · simp [giveA, giveR, HA.out, HT.out]
        · unfold giveT
          rw [HA.out, HT.out, HX.out]
          exact hC4

/-- What is there behind a Drop. -/
def dropJ (n s : Int) : Nat := n.toNat * 64 + (s.toNat - 1)
def dropT (T : Tab) (n s : Int) : Tab := if (getT T n s).is = true then (hoTo T n s (T (dropJ n s)).e (T (dropJ n s)).s 768).set (dropJ n s) Hd.no else T
def dropB (T : Tab) (n s : Int) : Bool := (getT T n s).is && !anyM (dropT T n s) (getT T n s)
def dropR (T : Tab) (n s : Int) : Int := if (getT T n s).is = true then 0 else 104
theorem hoTo_x (T : Tab) (pe ps qe qs : Int) (k j : Nat) : (hoTo T pe ps qe qs k j).x = (T j).x := by
  unfold hoTo
  split <;> rfl
theorem dropT_sanes {T : Tab} (h : Sanes T) (n s : Int) : Sanes (dropT T n s) := by
  intro j hj
  unfold dropT
  split
  · by_cases e : j = dropJ n s
    · rw [e, Tab.set_same]
      exact Sane.no
    · rw [Tab.set_other _ _ _ _ e, hoTo_x]
      exact h j hj
  · exact h j hj
theorem getT_sane {T : Tab} (h : Sanes T) (n s : Int) : Sane (getT T n s) := by
  cases hp : isP n s with
  | false => rw [getT_no T n s hp]; exact Sane.no
  | true =>
    obtain ⟨a, c, rfl, rfl, ha, hc⟩ := isP_nat hp
    rw [getT_nat T a c ha hc]
    exact h _ (by omega)
theorem is_isP {T : Tab} {n s : Int} (h : (getT T n s).is = true) : isP n s = true := by
  cases hp : isP n s with
  | true => rfl
  | false => rw [getT_no T n s hp] at h; exact absurd h (by decide)

theorem drop_nil (n s : Int) (w : World) :
    Calls Tryz.prog 74 #[.pointer none, .int .i64 n, .int .i64 s] w fun e w' => e = .returned (.tuple #[.bool false, .int .i64 101]) ∧ w' = w := by
  go_enter Tryz.func74, Tryz.ntmps74
  go_wp2
  go_ret2
  exact ⟨rfl, rfl⟩

set_option maxRecDepth 100000 in
set_option maxHeartbeats 2000000 in
theorem drop_at (b : Nat) (T : Tab) (n s : Int) (w : World) (h : CapsAt w b T) (hS : Sanes T) :
    Calls Tryz.prog 74 #[.pointer (some ⟨b, 0, none⟩), .int .i64 n, .int .i64 s] w fun e w' => e = .returned (.tuple #[.bool (dropB T n s), .int .i64 (dropR T n s)]) ∧ CapsAt w' b (dropT T n s) ∧ Upd b w w' := by
  have hg := get_at b T n s w h
  have HH : Hid _ := h
  have HS : Hid _ := hS
  have hlt := h.lt
  clear h hS
  cases hq : (getT T n s).is with
  | false =>
    rw [hq] at hg
    have HQ : Hid _ := hq
    clear hq
    have HD : Hid (dropT T n s = T) := by show dropT T n s = T; unfold dropT; rw [HQ.out]; rfl
    generalize hgx : getT T n s = x at *
    obtain ⟨k, i, l, q⟩ := x
    have HGX : Hid _ := hgx
    clear hgx
    dsimp only [cpRow] at *
    go_enter Tryz.func74, Tryz.ntmps74
    go_wp2_with (go_at_call 103; refine hg.mono ?_; rintro e w1 ⟨rfl, hb1⟩)
    go_ret2
    have hbb := hb1.trans ((below_alloc w1 (.cells #[.int .i64 k, .int .i64 i, .int .i64 l, .int .i64 q] 95)).mono hb1.size)
    refine ⟨?_, ?_, Upd.of_below hbb⟩
    · simp [dropB, dropR, HGX.out, HQ.out]
    · rw [HD.out]
      exact HH.out.below hbb
  | true =>
    obtain ⟨a, c, rfl, rfl, ha, hc⟩ := isP_nat (is_isP hq)
    rw [hq] at hg
    have HJ : Hid (dropJ a (c + 1 : Nat) = a * 64 + c) := by show dropJ a (c + 1 : Nat) = a * 64 + c; simp [dropJ]
    have HB : Hid (dropB T a (c + 1 : Nat) = !anyM (dropT T a (c + 1 : Nat)) (getT T a (c + 1 : Nat)) ∧ dropR T a (c + 1 : Nat) = 0) := by
      unfold dropB dropR
      rw [hq]
      exact ⟨rfl, rfl⟩
    have HD : Hid (dropT T a (c + 1 : Nat) = (hoTo T a (c + 1 : Nat) (T (a * 64 + c)).e (T (a * 64 + c)).s 768).set (a * 64 + c) Hd.no) := by
      unfold dropT
      rw [hq, HJ.out]
      rfl
    have HZ : Hid (Sane (getT T a (c + 1 : Nat))) := getT_sane HS.out _ _
    have HDS : Hid (Sanes (dropT T a (c + 1 : Nat))) := dropT_sanes HS.out _ _
    generalize getT T a (c + 1 : Nat) = x at *
    generalize dropT T a (c + 1 : Nat) = D at *
    generalize dropB T a (c + 1 : Nat) = DB at *
    generalize dropR T a (c + 1 : Nat) = DR at *
    obtain ⟨k, i, l, q⟩ := x
    dsimp only [cpRow] at *
    clear hq
    go_enter Tryz.func74, Tryz.ntmps74
    go_wp2_with fail
    refine hg.mono ?_
    rintro e w1 ⟨rfl, hb1⟩
    clear hg
    obtain ⟨W, hW⟩ : ∃ W, W = w1.alloc (.cells #[.int .i64 k, .int .i64 i, .int .i64 l, .int .i64 q] 95) := ⟨_, rfl⟩
    have hbW : Below w1.heap.size w1 W := by rw [hW]; exact below_alloc _ _
    have HBW : Hid (Below w.heap.size w W) := hb1.trans (hbW.mono hb1.size)
    have HI : Hid (W.heap[w1.heap.size]? = some (.cells (cpRow ⟨k, i, l, q⟩) 95)) := by rw [hW]; exact heap_alloc_new _ _
    have HC : Hid (CapsAt W b T) := HH.out.below HBW.out
    have hlt1 : b < w1.heap.size := Nat.lt_of_lt_of_le hlt hb1.size
    have hs1 := hb1.size
    clear hbW hb1
    obtain ⟨_, c4, c5⟩ := HC.out.cells ha hc rfl
    have hcc : ((c + 1 : Nat) : Int) = (c : Int) + 1 := by omega
    rw [hcc] at HD
    have hho := handOver_at b T a ((c : Int) + 1) (T (a * 64 + c)).e (T (a * 64 + c)).s W HC.out
    have HWW : Hid _ := hW
    have ia : (a : Int) < 12 := by omega
    have ic : (c : Int) < 64 := by omega
    generalize (T (a * 64 + c)).e = te at *
    generalize (T (a * 64 + c)).s = ts at *
    rw [hW] at c4 c5
    clear hW
    clear hcc
    go_wp2_with fail
    rw [← HWW.out]
    refine hho.mono ?_
    rintro e w2 ⟨rfl, hC2, hU2⟩
    clear hho c4 c5 HWW
    obtain ⟨d0, d1, d2, d3⟩ := cap_cells (x := ⟨k, i, l, q⟩) ((hU2.block _ (lt_of_heap HI.out) (by omega)).trans HI.out)
    dsimp only at d0 d1 d2 d3
    obtain ⟨G, hG⟩ : ∃ G, hoTo T a ((c : Int) + 1) te ts 768 (a * 64 + c) = G := ⟨_, rfl⟩
    obtain ⟨⟨c0, c1, c2, c3⟩, c4, c5⟩ := hC2.cells ha hc hG
    clear hG
    obtain ⟨⟨x0, x1, x2, x3⟩, xe, xs⟩ := G
    dsimp only at c0 c1 c2 c3 c4 c5
    have f0 := hC2.free (a * 384 + c * 6)
    have f1 := hC2.free (a * 384 + c * 6 + 1)
    have f2 := hC2.free (a * 384 + c * 6 + 2)
    have f3 := hC2.free (a * 384 + c * 6 + 3)
    have f4 := hC2.free (a * 384 + c * 6 + 4)
    have f5 := hC2.free (a * 384 + c * 6 + 5)
    have HX := hC2.put6 (j := a * 64 + c) (o := a * 384 + c * 6) (by omega) (by omega) Hd.no
    dsimp only at HX
    rw [← HD.out] at HX
    have hsix := Upd.six b (a * 384 + c * 6) w2 (.int .i64 0) (.int .i64 0) (.int .i64 0) (.int .i64 0) (.int .i64 0) (.int .i64 0)
    have HU6 := ((Upd.of_below HBW.out).trans hU2).trans hsix
    obtain ⟨V6, hV6⟩ : ∃ V6, V6 = (((((w2.setCell ⟨b, a * 384 + c * 6, none⟩ (.int .i64 0)).setCell ⟨b, a * 384 + c * 6 + 1, none⟩ (.int .i64 0)).setCell ⟨b, a * 384 + c * 6 + 2, none⟩ (.int .i64 0)).setCell ⟨b, a * 384 + c * 6 + 3, none⟩ (.int .i64 0)).setCell ⟨b, a * 384 + c * 6 + 4, none⟩ (.int .i64 0)).setCell ⟨b, a * 384 + c * 6 + 5, none⟩ (.int .i64 0) := ⟨_, rfl⟩
    rw [← hV6] at HX HU6
    have HXX : Hid _ := HX
    have HUU : Hid _ := HU6
    have HVV : Hid _ := hV6
    have ham := anyMeets_at b D ⟨k, i, l, q⟩ V6 HX HDS.out HZ.out
    dsimp only [cpRow] at ham
    clear HX HU6 hV6 hsix hC2 hU2 HD HC HI
    go_wp2_with fail
    rw [← HVV.out]
    refine ham.mono ?_
    rintro e w3 ⟨rfl, hb3⟩
    clear ham HVV c0 c1 c2 c3 c4 c5 f0 f1 f2 f3 f4 f5
    generalize anyM D ⟨k, i, l, q⟩ = AM at *
    go_wp2
    go_ret2
    exact ⟨by rw [HB.out.1, HB.out.2]; rfl, HXX.out.below hb3, HUU.out.trans (Upd.of_below hb3)⟩
end Ca
end Go.Proofs.YtfnafjddajgahaaGreat
