/- Package pipes: a ring's bytes, take, empty. -/
import Derived.Test.YtpnmaoinnmmfdaaPpB
namespace Go.Proofs.Ytpnmaoinnmmfdaa
open Go.RowKit Go.Lib
set_option linter.unusedVariables false

theorem byteInfo : (Try.prog.info? 5).map (fun i => (i.zero, i.size, i.bytes)) = some (some (.int .u8 0), 1, 1) := by kernel_rfl
/-- Block g holds these bytes, from its front on. -/
def Bt (w : World) (g : Nat) (l : List UInt8) : Prop := ∃ cur, w.heap[g]? = some (.cells cur 5 (0, 0)) ∧ l.length ≤ cur.size ∧ ∀ j, j < l.length → cur[j]? = some (.int .u8 (byt l j))
theorem Bt.keep {w w' : World} {g : Nat} {l : List UInt8} (h : Bt w g l) (hb : w'.heap[g]? = w.heap[g]?) : Bt w' g l := by
  obtain ⟨cur, h1, h2⟩ := h
  exact ⟨cur, hb.trans h1, h2⟩
theorem Bt.lt {w : World} {g : Nat} {l : List UInt8} (h : Bt w g l) : g < w.heap.size := by
  obtain ⟨cur, h1, h2⟩ := h
  exact lt_of_heap h1
theorem Bt.below {w w' : World} {g : Nat} {l : List UInt8} (h : Bt w g l) (hb : Below w.heap.size w w') : Bt w' g l := h.keep (hb.block _ h.lt)
theorem Bt.cell {w : World} {g : Nat} {l : List UInt8} (h : Bt w g l) {j : Nat} (hj : j < l.length) : w.cell? ⟨g, j, none⟩ = some (.int .u8 (byt l j)) := by
  obtain ⟨cur, h1, h2, h3⟩ := h
  rw [cell_of_heap h1]
  exact h3 j hj
theorem Bt.ne {w : World} {g b : Nat} {l : List UInt8} {row : Array Value} (h : Bt w g l) (hb : PB w b row) : g ≠ b := by
  obtain ⟨cur, h1, h2⟩ := h
  intro e
  unfold PB at hb
  rw [← e, h1] at hb
  simp only [Option.some.injEq, Obj.cells.injEq] at hb
  exact absurd hb.2.1 (by decide)
theorem byt_take {l : List UInt8} {m j : Nat} (h : j < (l.take m).length) : byt (l.take m) j = byt l j := by
  have h1 : j < m ∧ j < l.length := by rw [List.length_take] at h; omega
  rw [byt_get (l := l.take m) (x := l[j]) (by rw [List.getElem?_take_of_lt h1.1]; exact List.getElem?_eq_getElem h1.2), byt_get (List.getElem?_eq_getElem h1.2)]
theorem Bt.take {w : World} {g : Nat} {l : List UInt8} (h : Bt w g l) (m : Nat) : Bt w g (l.take m) := by
  obtain ⟨cur, h1, h2, h3⟩ := h
  refine ⟨cur, h1, by rw [List.length_take]; omega, fun j hj => ?_⟩
  rw [byt_take hj]
  exact h3 j (by rw [List.length_take] at hj; omega)
theorem Bt.string {w : World} {g cap : Nat} {l : List UInt8} (h : Bt w g l) : (convert 69 9 (.slice (some ⟨g, 0, none⟩) l.length cap)).run Try.prog w = .ok (tx l) w := by
  refine run_convert_bytes_back w _ _ 5 ⟨g, 0, none⟩ cap l Try.underlying69 Try.underlying5 Try.underlying9 (fun j hj => ?_)
  rw [add0, Nat.zero_add, h.cell hj, byt_get (List.getElem?_eq_getElem hj)]
/-- The first k bytes, zeros behind them. -/
def brow (l : List UInt8) (k : Nat) : Array Value := ((List.range l.length).map (fun j => Value.int .u8 (if j < k then byt l j else 0))).toArray
theorem brow_zero (l : List UInt8) : brow l 0 = Array.replicate l.length (.int .u8 0) := by
  apply Array.ext
  · simp [brow]
  · intro i h1 h2
    simp [brow]
theorem brow_size (l : List UInt8) (k : Nat) : (brow l k).size = l.length := by simp [brow]
theorem brow_get (l : List UInt8) (k j : Nat) (hj : j < l.length) : (brow l k)[j]? = some (.int .u8 (if j < k then byt l j else 0)) := by
  simp [brow, hj]
theorem brow_set (l : List UInt8) (k : Nat) (hk : k < l.length) : (brow l k).setIfInBounds k (.int .u8 (byt l k)) = brow l (k + 1) := by
  apply Array.ext
  · simp [brow]
  · intro i h1 h2
    have hi : i < l.length := by rw [brow_size] at h2; exact h2
    have e1 := brow_get l (k + 1) i hi
    have e2 := brow_get l k i hi
    rw [Array.getElem?_eq_getElem h2] at e1
    rw [Array.getElem?_eq_getElem (by rw [brow_size]; exact hi)] at e2
    rw [Array.getElem_setIfInBounds (by rw [brow_size]; exact hi)]
    rw [Option.some.inj e1]
    by_cases q : k = i
    · subst q
      rw [if_pos rfl, if_pos (by omega)]
    · rw [if_neg q, Option.some.inj e2]
      by_cases q2 : i < k
      · rw [if_pos q2, if_pos (by omega)]
      · rw [if_neg q2, if_neg (by omega)]
theorem brow_bt {w : World} {g : Nat} {l : List UInt8} (h : w.heap[g]? = some (.cells (brow l l.length) 5 (0, 0))) : Bt w g l :=
  ⟨_, h, by rw [brow_size]; exact Nat.le_refl _, fun j hj => by rw [brow_get l _ j hj, if_pos hj]⟩
theorem make_bytes (n : Nat) (hn : n ≤ 8) (w : World) : (Instr.makeSlice 69 (.int .i64 (n : Int)) (.int .i64 (n : Int))).run Try.prog w = .ok (.slice (some ⟨w.heap.size, 0, none⟩) n n) (w.alloc (.cells (Array.replicate n (.int .u8 0)) 5)) := by
  have := run_make_flat (P := Try.prog) 69 5 (.int .u8 0) (.int .u8 0) 1 1 Try.underlying69 byteInfo rfl (by omega) .i64 .i64 n (by omega) (by omega) w
  rw [Nat.mul_one] at this
  exact this

set_option maxRecDepth 100000 in
set_option maxHeartbeats 4000000 in
theorem bytes_at (b o e : Nat) (l : List UInt8) (row : Array Value) (w : World) (hb : PB w b row) (hr : Ring row o e l) :
    Calls Try.prog 32 #[.pointer (some ⟨b, o, none⟩)] w fun x w' => ∃ g, x = .returned (.slice (some ⟨g, 0, none⟩) l.length l.length) ∧ w.heap.size ≤ g ∧ Bt w' g l ∧ Below w.heap.size w w' := by
  have hL := length_at b o e l row w hb hr
  have HH : Hid (PB w b row) := hb
  have HR : Hid (Ring row o e l) := hr
  have hl8 := hr.len
  have hmk := make_bytes l.length hl8
  have HZ : Hid (brow l 0 = Array.replicate l.length (.int .u8 0)) := brow_zero l
  have HSt : Hid (∀ k, k < l.length → (brow l k).setIfInBounds k (.int .u8 (byt l k)) = brow l (k + 1)) := brow_set l
  have HFin : Hid (∀ W g, W.heap[g]? = some (.cells (brow l l.length) 5 (0, 0)) → Bt W g l) := fun W g h => brow_bt h
  have HGet : Hid (∀ k, k < l.length → (brow l k)[k]? = some (.int .u8 0)) := fun k hk => by rw [brow_get l k k hk, if_neg (by omega)]
  generalize hq : l.length = L at *
  have HQ : Hid (l.length = L) := hq
  clear hb hr hq
  go_enter Try.func32, Try.ntmps32
  go_wp2_with fail
  refine hL.mono ?_
  rintro x w1 ⟨rfl, hb1⟩
  have HB1 : Hid (Below w.heap.size w w1) := hb1
  have hs1 := hb1.size
  clear hL hb1
  go_wp2
  rw [← HZ.out]
  clear hmk HZ
  have HN0 : Hid ((w1.alloc (.cells (brow l 0) 5)).heap[w1.heap.size]? = some (.cells (brow l 0) 5 (0, 0))) := heap_alloc_new _ _
  have HB2 : Hid (Below w.heap.size w (w1.alloc (.cells (brow l 0) 5))) := HB1.out.alloc hs1 _
  generalize w1.alloc (.cells (brow l 0) 5) = W0 at *
  generalize hG : w1.heap.size = G at *
  clear hG HB1
  go_loopw [10] (fun i wr => ∃ (k : Nat), k ≤ L ∧ i = .int .i64 k ∧ wr.heap[G]? = some (.cells (brow l k) 5 (0, 0)) ∧ Below w.heap.size w wr) (fun i _ => L - (intOf i).toNat)
  case atStart => exact ⟨0, by omega, rfl, HN0.out, HB2.out⟩
  case round =>
    clear HN0 HB2
    obtain ⟨k, hk, rfl, hN, hB⟩ := hrel
    have HB : Hid (Below w.heap.size w wr) := hB
    have HN : Hid (wr.heap[G]? = some (.cells (brow l k) 5 (0, 0))) := hN
    by_cases hlt : k < L
    · have g0 : decide ((k : Int) < (L : Int)) = true := decide_eq_true (by omega)
      have hki : (k : Int) < (L : Int) := by omega
      have hP := HH.out.below hB
      have hA := at_at b o e k l row wr hP HR.out (by omega)
      have c0 : wr.drew.cell? ⟨b, o + (e + k) % 8 * 2 + 1, none⟩ = _ := (hP.drew.cell _).trans (HR.out.val k (by omega))
      have c1 : wr.drew.cell? ⟨G, k, none⟩ = some (.int .u8 0) := (cell_of_heap (w := wr.drew) hN).trans (HGet.out k hlt)
      have f1 : wr.drew.frozen? ⟨G, k, none⟩ = false := frozen_of_heap (w := wr.drew) hN
      have HS : Hid ((brow l k).setIfInBounds k (.int .u8 (byt l k)) = brow l (k + 1)) := HSt.out k hlt
      generalize byt l k = z at *
      generalize (e + k) % 8 = p at *
      clear hP hB hN
      go_wp2_with fail
      refine hA.mono ?_
      rintro x w2 ⟨rfl, hw⟩
      rw [hw]
      clear hw w2 hA
      go_wp2
      go_roundw
      case rel =>
        refine ⟨k + 1, by omega, by go_num, ?_, HB.out.drew.trans ((Upd.setCell G k _ _).below hs1 (by have := HB.out.size; simpa using this))⟩
        show (wr.setCell _ _).heap[G]? = _
        rw [setCell_eq_setRow wr G k _ _ _ _ HN.out, setRow_heap wr G _ _ _ _ HN.out, HS.out]
      case measure => simp [intOf]; omega
    · obtain rfl : k = L := by omega
      have g0 : decide ((k : Int) < (k : Int)) = false := decide_eq_false (by omega)
      clear hB hN
      go_wp2
      go_ret
      exact ⟨G, rfl, hs1, HFin.out _ _ HN.out, HB.out⟩

theorem elemB : Try.prog.elem 69 = 5 := by kernel_rfl
set_option maxRecDepth 100000 in
/-- l[:k] of bytes. -/
theorem cut_bytes (g n cap k : Nat) (hk : k ≤ cap) (V : World) : (Instr.slice 69 (.slice (some ⟨g, 0, none⟩) n cap) none (some (.int .i64 (k : Int))) none).run Try.prog V = .ok (.slice (some ⟨g, 0, none⟩) k cap) V := by
  obtain ⟨i0, hi0, hzz⟩ := Option.map_eq_some_iff.1 byteInfo
  simp only [Prod.mk.injEq] at hzz
  have hk1 : (k : Int) ≤ (cap : Int) := by omega
  rw [run_slice_h V 69 _ _ _ Try.underlying69 _ _ (by omega) hk1]
  simp [sizeOf, typeInfo, elemB, hi0, sliced, Addr.add]
theorem byt_drop0 {l : List UInt8} {k : Nat} {x : UInt8} (h : l[k]? = some x) : l.drop k = x :: l.drop (k + 1) := by
  obtain ⟨hl, he⟩ := List.getElem?_eq_some_iff.1 h
  rw [List.drop_eq_getElem_cons hl, he]
set_option maxRecDepth 100000 in
set_option maxHeartbeats 4000000 in
theorem rtake_at (b o e : Nat) (l : List UInt8) (n : Int) (row : Array Value) (w : World) (hb : PB w b row) (hr : Ring row o e l) :
    Calls Try.prog 28 #[.pointer (some ⟨b, o, none⟩), .int .i64 n] w fun x w' => x = .returned (tx (l.take (tk l n))) ∧ ∃ row' e', PB w' b row' ∧ Ring row' o e' (l.drop (tk l n)) ∧ Same o row row' ∧ Upd b w w' := by
  have hBy := bytes_at b o e l row w hb hr
  have HH : Hid (PB w b row) := hb
  have HR : Hid (Ring row o e l) := hr
  have hl8 := hr.len
  have hm : min (max n 0) (l.length : Int) = (tk l n : Int) := by unfold tk; omega
  have htl := tk_le l n
  generalize tk l n = m at *
  have hlt8 : (l.take m).length = m := by rw [List.length_take]; omega
  generalize hq : l.length = L at *
  have HQ : Hid (l.length = L) := hq
  clear hb hr hq
  go_enter Try.func28, Try.ntmps28
  go_wp2_with fail
  refine hBy.mono ?_
  rintro x w1 ⟨g, rfl, hg, hbt, hb1⟩
  have hcut := cut_bytes g L L m htl
  have HBt : Hid (Bt w1 g (l.take m)) := hbt.take m
  have HB1 : Hid (Below w.heap.size w w1) := hb1
  have HP1 : Hid (PB w1 b row) := HH.out.below hb1
  have HLT : Hid ((l.take m).length = m) := hlt8
  clear hBy hb1 hbt HH hlt8
  go_wp2
  clear hcut hm
  go_loopw [17] (fun i wr => ∃ (k : Nat) (row' : Array Value) (e' : Nat), k ≤ m ∧ i = .int .i64 k ∧ PB wr b row' ∧ Ring row' o e' (l.drop k) ∧ Same o row row' ∧ Upd b w1 wr) (fun i _ => m - (intOf i).toNat)
  case atStart => exact ⟨0, row, e, by omega, rfl, HP1.out, by simpa using HR.out, Same.refl _ _, Upd.refl _ _⟩
  case round =>
    obtain ⟨k, row', e', hk, rfl, hP, hRg, hSm, hU⟩ := hrel
    have HPB : Hid (PB wr b row') := hP
    have HRg : Hid (Ring row' o e' (l.drop k)) := hRg
    have HSm : Hid (Same o row row') := hSm
    have HU : Hid (Upd b w1 wr) := hU
    by_cases hlt : k < m
    · have g0 : decide ((k : Int) < (m : Int)) = true := decide_eq_true (by omega)
      have hA := at_at b o e' 0 _ row' wr hP hRg (by omega)
      have he := hRg.el
      rw [Nat.add_zero, Nat.mod_eq_of_lt he] at hA
      have c0 := (hP.cell _).trans (hRg.used 0 (by omega))
      have c1 := (hP.cell _).trans (hRg.val 0 (by omega))
      have c2 := (hP.cell _).trans hRg.eld
      rw [show (e' + 0) % 8 = e' by omega] at c0 c1
      have f0 := hP.free (o + e' * 2)
      have f1 := hP.free (o + e' * 2 + 1)
      have f2 := hP.free (o + 16)
      have n0 : o + e' * 2 ≠ o + 16 := by omega
      have n1 : o + e' * 2 + 1 ≠ o + 16 := by omega
      obtain ⟨x, hx⟩ : ∃ x, l[k]? = some x := ⟨l[k]'(by rw [HQ.out]; omega), List.getElem?_eq_getElem _⟩
      have hd := byt_drop0 hx
      rw [hd] at hRg
      have HN : Hid (Ring (((row'.setIfInBounds (o + e' * 2) (.bool false)).setIfInBounds (o + e' * 2 + 1) (.int .u8 0)).setIfInBounds (o + 16) (.int .i64 (((e' + 1) % 8 : Nat) : Int))) o ((e' + 1) % 8) (l.drop (k + 1))) := hRg.pop
      have hsum : IntKind.i64.wrap ((e' : Int) + 1) = (e' : Int) + 1 := by simp [IntKind.wrap, IntKind.bits, IntKind.signed]; omega
      obtain ⟨p, hp⟩ : ∃ p, p = (e' + 1) % 8 := ⟨_, rfl⟩
      have hrem : ((e' : Int) + 1).tmod 8 = (p : Int) := by rw [hp, Int.tmod_eq_emod_of_nonneg (by omega)]; omega
      have hrem2 : ((e' : Int) + 1) % 8 = (p : Int) := by rw [hp]; omega
      rw [← hp] at HN
      have c0' : wr.drew.cell? ⟨b, o + e' * 2, none⟩ = _ := c0
      have c1' : wr.drew.cell? ⟨b, o + e' * 2 + 1, none⟩ = _ := c1
      have c2' : wr.drew.cell? ⟨b, o + 16, none⟩ = _ := c2
      have f0' : wr.drew.frozen? ⟨b, o + e' * 2, none⟩ = false := f0
      have f1' : wr.drew.frozen? ⟨b, o + e' * 2 + 1, none⟩ = false := f1
      have f2' : wr.drew.frozen? ⟨b, o + 16, none⟩ = false := f2
      clear hP hRg hSm hU hx hd hp
      go_wp2_with fail
      refine hA.mono ?_
      rintro x2 w2 ⟨rfl, hw⟩
      rw [hw]
      clear hw w2 hA
      go_wp2
      go_roundw
      case rel =>
        exact ⟨k + 1, _, p, by omega, by go_num, PB.set (PB.set (PB.set (PB.drew HPB.out) _ _) _ _) _ _, HN.out, HSm.out.trans (((Same.set _ _ _ (by omega) (by omega)).trans (Same.set _ _ _ (by omega) (by omega))).trans (Same.set _ _ _ (by omega) (by omega))), HU.out.trans ((Upd.drew b _).trans (((Upd.setCell _ _ _ _).trans (Upd.setCell _ _ _ _)).trans (Upd.setCell _ _ _ _)))⟩
      case measure => simp [intOf]; omega
    · obtain rfl : k = m := by omega
      have g0 : decide ((k : Int) < (k : Int)) = false := decide_eq_false (by omega)
      have hst : ∀ c, (convert 69 9 (.slice (some ⟨g, 0, none⟩) k c)).run Try.prog wr = .ok (tx (l.take k)) wr := fun c => by
        have h1 : Bt wr g (l.take k) := HBt.out.keep (HU.out.block g HBt.out.lt (HBt.out.ne HP1.out))
        have := h1.string (cap := c)
        rw [HLT.out] at this
        exact this
      clear hP hRg hSm hU
      go_wp2
      go_ret
      exact ⟨rfl, row', e', HPB.out, HRg.out, HSm.out, (Upd.of_below HB1.out).trans HU.out⟩
/-- A ring without bytes. -/
def nop : List Value := [.bool false, .int .u8 0, .bool false, .int .u8 0, .bool false, .int .u8 0, .bool false, .int .u8 0, .bool false, .int .u8 0, .bool false, .int .u8 0, .bool false, .int .u8 0, .bool false, .int .u8 0]
theorem nop_get (j : Nat) (hj : j < 8) : nop[j * 2]? = some (.bool false) ∧ nop[j * 2 + 1]? = some (.int .u8 0) := by
  obtain rfl | rfl | rfl | rfl | rfl | rfl | rfl | rfl : j = 0 ∨ j = 1 ∨ j = 2 ∨ j = 3 ∨ j = 4 ∨ j = 5 ∨ j = 6 ∨ j = 7 := by omega
  all_goals exact ⟨rfl, rfl⟩
/-- The row with the ring at o cleared. -/
def clr (row : Array Value) (o : Nat) : Array Value := (row.toList.take o ++ nop ++ row.toList.drop (o + 16)).toArray
theorem clr_size (row : Array Value) (o : Nat) (h : o + 17 ≤ row.size) : (clr row o).size = row.size := by
  have : row.toList.length = row.size := by simp
  simp [clr, nop]
  omega
theorem clr_in (row : Array Value) (o i : Nat) (h : o + 17 ≤ row.size) (hi : i < 16) : (clr row o)[o + i]? = nop[i]? := by
  have hl : (row.toList.take o).length = o := by simp; omega
  have h16 : nop.length = 16 := rfl
  unfold clr
  rw [List.getElem?_toArray, List.getElem?_append_left (by rw [List.length_append, hl, h16]; omega), List.getElem?_append_right (by omega), hl]
  congr 1
  omega
theorem clr_out (row : Array Value) (o i : Nat) (h : o + 17 ≤ row.size) (hi : i < o ∨ o + 16 ≤ i) : (clr row o)[i]? = row[i]? := by
  have hl : (row.toList.take o).length = o := by simp; omega
  have h16 : nop.length = 16 := rfl
  unfold clr
  rw [List.getElem?_toArray]
  rcases hi with q | q
  · rw [List.getElem?_append_left (by rw [List.length_append, hl, h16]; omega), List.getElem?_append_left (by omega), List.getElem?_take_of_lt q]
    simp
  · rw [List.getElem?_append_right (by rw [List.length_append, hl, h16]; omega), List.length_append, hl, h16, List.getElem?_drop, show o + 16 + (i - (o + 16)) = i by omega]
    simp
theorem Ring.clear {row : Array Value} {o : Nat} (h : o + 17 ≤ row.size) : Ring ((clr row o).setIfInBounds (o + 16) (.int .i64 0)) o 0 [] := by
  refine ⟨by rw [Array.size_setIfInBounds, clr_size row o h]; exact h, by omega, by simp, ?_, fun j hj => ?_, fun j hj => ?_⟩
  · rw [Array.getElem?_setIfInBounds, if_pos rfl, if_pos (by rw [clr_size row o h]; omega)]
    rfl
  · rw [Nat.zero_add, Nat.mod_eq_of_lt hj, Array.getElem?_setIfInBounds, if_neg (by omega), clr_in row o _ h (by omega), (nop_get j hj).1]
    rfl
  · rw [Nat.zero_add, Nat.mod_eq_of_lt hj, Nat.add_assoc, Array.getElem?_setIfInBounds, if_neg (by omega), clr_in row o _ h (by omega), (nop_get j hj).2, byt_no (by simp)]
theorem same_clr {row : Array Value} {o : Nat} (h : o + 17 ≤ row.size) : Same o row ((clr row o).setIfInBounds (o + 16) (.int .i64 0)) :=
  ⟨by rw [Array.size_setIfInBounds, clr_size row o h], fun i hi => by rw [Array.getElem?_setIfInBounds, if_neg (by omega), clr_out row o i h (by omega)]⟩
theorem placeInfo : (Try.prog.info? 54).map (fun i => (i.zero, i.size)) = some (some (.agg #[.bool false, .int .u8 0]), 2) := by kernel_rfl
theorem run_clear_ring (b o : Nat) (row : Array Value) (w : World) (hb : PB w b row) (h : o + 17 ≤ row.size) (ty : TypeId) (cap : Nat) :
    (Builtin.clear_ #[74] ty #[.slice (some ⟨b, o, none⟩) 8 cap]).run Try.prog w = .ok (.tuple #[]) (w.setRow b (clr row o)) := by
  obtain ⟨i, hi, hzz⟩ := Option.map_eq_some_iff.1 placeInfo
  simp only [Prod.mk.injEq] at hzz
  have hst := run_storeCells_at Try.prog b o 60 nop 0 row w hb (by show o + 0 + 16 ≤ _; omega) (fun v hv => by
    simp only [nop, List.mem_cons, List.not_mem_nil, or_false] at hv
    rcases hv with rfl | rfl | rfl | rfl | rfl | rfl | rfl | rfl | rfl | rfl | rfl | rfl | rfl | rfl | rfl | rfl <;> rfl)
  have hzc : (Builtin.zeroCells #[.bool false, .int .u8 0] 8).toList = nop := by kernel_rfl
  simp only [Nat.add_zero] at hst
  have h16 : nop.length = 16 := rfl
  rw [h16] at hst
  simp [Builtin.clear_, run_underlying Try.underlying74, zeroValue, typeInfo, hi, hzz.1, Value.cells, hzc, hst, clr]
set_option maxRecDepth 100000 in
set_option maxHeartbeats 4000000 in
theorem empty_at (b o : Nat) (row : Array Value) (w : World) (hb : PB w b row) (h : o + 17 ≤ row.size) (x : Value) (hx : row[o + 16]? = some (.int .i64 0) ∨ ∃ n, row[o + 16]? = some (.int .i64 n)) :
    Calls Try.prog 29 #[.pointer (some ⟨b, o, none⟩)] w fun x w' => x = .returned (.tuple #[]) ∧ ∃ row', PB w' b row' ∧ Ring row' o 0 [] ∧ Same o row row' ∧ Upd b w w' := by
  have hcl := run_clear_ring b o row w hb h
  have hP2 : PB (w.setRow b (clr row o)) b (clr row o) := setRow_heap w b _ _ _ _ hb
  have HP2 : Hid (PB (w.setRow b (clr row o)) b (clr row o)) := hP2
  have HU2 : Hid (Upd b w (w.setRow b (clr row o))) := Upd.setRow b w _
  have HRg : Hid (Ring ((clr row o).setIfInBounds (o + 16) (.int .i64 0)) o 0 []) := Ring.clear h
  have HSm : Hid (Same o row ((clr row o).setIfInBounds (o + 16) (.int .i64 0))) := same_clr h
  obtain ⟨n, hn⟩ : ∃ n, row[o + 16]? = some (.int .i64 n) := by
    rcases hx with q | q
    · exact ⟨0, q⟩
    · exact q
  have c2 : (w.setRow b (clr row o)).cell? ⟨b, o + 16, none⟩ = some (.int .i64 n) := (hP2.cell _).trans ((clr_out row o _ h (by omega)).trans hn)
  have f2 := hP2.free (o + 16)
  clear hb h hx hn hP2
  generalize w.setRow b (clr row o) = W at *
  go_enter Try.func29, Try.ntmps29
  go_wp2
  go_end0
  exact ⟨rfl, _, HP2.out.set _ _, HRg.out, HSm.out, HU2.out.trans (Upd.setCell _ _ _ _)⟩
end Go.Proofs.Ytpnmaoinnmmfdaa
