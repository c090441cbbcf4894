/- Package pipes: a ring's bytes, take, empty. -/
/- Package pipes: the pipes in the heap; New, ring, Make, Put, Take, Len, Drop. -/
/- Package pipes: Make, an append of words. -/
import Derived.Test.YtikjfdihocgfpaaGreatDoorPpMTPpB
import Derived.Deep.RegionLaw
set_option linter.all false
namespace Go.Proofs.YtikjfdihocgfpaaGreatDoor
open Go.RowKit Go.Lib
namespace Ow
end Ow
namespace Pp
open Ow
theorem byteInfo : (Tryz.prog.info? 5).map (fun i => (i.zero, i.size, i.bytes)) = some (some (.int .u8 0), 1, 1) := by kernel_rfl
/-- Block g holds these bytes, from its front on. -/
def Bt (w : World) (g : Nat) (l : List UInt8) : Prop := ∃ cur, w.heap[g]? = some (.cells cur 5 (0, 0)) ∧ l.length ≤ cur.size ∧ ∀ j, j < l.length → cur[j]? = some (.int .u8 (byt l j))
theorem Bt.keep {w w' : World} {g : Nat} {l : List UInt8} (h : Bt w g l) (hb : w'.heap[g]? = w.heap[g]?) : Bt w' g l := by
  obtain ⟨cur, h1, h2⟩ := h
  exact ⟨cur, hb.trans h1, h2⟩
theorem Bt.lt {w : World} {g : Nat} {l : List UInt8} (h : Bt w g l) : g < w.heap.size := by
  obtain ⟨cur, h1, h2⟩ := h
  exact lt_of_heap h1
theorem Bt.cell {w : World} {g : Nat} {l : List UInt8} (h : Bt w g l) {j : Nat} (hj : j < l.length) : w.cell? ⟨g, j, none⟩ = some (.int .u8 (byt l j)) := by
  obtain ⟨cur, h1, h2, h3⟩ := h
  rw [cell_of_heap h1]
  exact h3 j hj
theorem Bt.ne {w : World} {g b : Nat} {l : List UInt8} {row : Array Value} (h : Bt w g l) (hb : PB w b row) : g ≠ b := by
  obtain ⟨cur, h1, h2⟩ := h
  intro e
  unfold PB at hb
  rw [← e, h1] at hb
  simp only [Option.some.injEq, Obj.cells.injEq] at hb
  exact absurd hb.2.1 (by decide)
theorem byt_take {l : List UInt8} {m j : Nat} (h : j < (l.take m).length) : byt (l.take m) j = byt l j := by
  have h1 : j < m ∧ j < l.length := by rw [List.length_take] at h; omega
  rw [byt_get (l := l.take m) (x := l[j]) (by rw [List.getElem?_take_of_lt h1.1]; exact List.getElem?_eq_getElem h1.2), byt_get (List.getElem?_eq_getElem h1.2)]
theorem Bt.take {w : World} {g : Nat} {l : List UInt8} (h : Bt w g l) (m : Nat) : Bt w g (l.take m) := by
  obtain ⟨cur, h1, h2, h3⟩ := h
  refine ⟨cur, h1, by rw [List.length_take]; omega, fun j hj => ?_⟩
  rw [byt_take hj]
  exact h3 j (by rw [List.length_take] at hj; omega)
theorem Bt.string {w : World} {g cap : Nat} {l : List UInt8} (h : Bt w g l) : (convert 157 9 (.slice (some ⟨g, 0, none⟩) l.length cap)).run Tryz.prog w = .ok (tx l) w := by
  refine run_convert_bytes_back w _ _ 5 ⟨g, 0, none⟩ cap l Tryz.underlying157 Tryz.underlying5 Tryz.underlying9 (fun j hj => ?_)
  rw [add0, Nat.zero_add, h.cell hj, byt_get (List.getElem?_eq_getElem hj)]
/-- The first k bytes, zeros behind them. -/
def brow (l : List UInt8) (k : Nat) : Array Value := ((List.range l.length).map (fun j => Value.int .u8 (if j < k then byt l j else 0))).toArray
theorem brow_zero (l : List UInt8) : brow l 0 = Array.replicate l.length (.int .u8 0) := by
  apply Array.ext
  · simp [brow]
  · intro i h1 h2
    simp [brow]
theorem brow_size (l : List UInt8) (k : Nat) : (brow l k).size = l.length := by simp [brow]
theorem brow_get (l : List UInt8) (k j : Nat) (hj : j < l.length) : (brow l k)[j]? = some (.int .u8 (if j < k then byt l j else 0)) := by
  simp [brow, hj]
theorem brow_set (l : List UInt8) (k : Nat) (hk : k < l.length) : (brow l k).setIfInBounds k (.int .u8 (byt l k)) = brow l (k + 1) := by
  apply Array.ext
  · simp [brow]
  · intro i h1 h2
    have hi : i < l.length := by rw [brow_size] at h2; exact h2
    have e1 := brow_get l (k + 1) i hi
    have e2 := brow_get l k i hi
    rw [Array.getElem?_eq_getElem h2] at e1
    rw [Array.getElem?_eq_getElem (by rw [brow_size]; exact hi)] at e2
    rw [Array.getElem_setIfInBounds (by rw [brow_size]; exact hi)]
    rw [Option.some.inj e1]
    by_cases q : k = i
    · subst q
      rw [if_pos rfl, if_pos (by omega)]
    · rw [if_neg q, Option.some.inj e2]
      by_cases q2 : i < k
      · rw [if_pos q2, if_pos (by omega)]
      · rw [if_neg q2, if_neg (by omega)]
theorem brow_bt {w : World} {g : Nat} {l : List UInt8} (h : w.heap[g]? = some (.cells (brow l l.length) 5 (0, 0))) : Bt w g l :=
  ⟨_, h, by rw [brow_size]; exact Nat.le_refl _, fun j hj => by rw [brow_get l _ j hj, if_pos hj]⟩
theorem make_bytes (n : Nat) (hn : n ≤ 8) (w : World) : (Instr.makeSlice 157 (.int .i64 (n : Int)) (.int .i64 (n : Int))).run Tryz.prog w = .ok (.slice (some ⟨w.heap.size, 0, none⟩) n n) (w.alloc (.cells (Array.replicate n (.int .u8 0)) 5)) := by
  have := run_make_flat (P := Tryz.prog) 157 5 (.int .u8 0) (.int .u8 0) 1 1 Tryz.underlying157 byteInfo rfl (by omega) .i64 .i64 n (by omega) (by omega) w
  rw [Nat.mul_one] at this
  exact this
set_option maxRecDepth 100000 in
set_option maxHeartbeats 4000000 in
theorem bytes_at (b o e : Nat) (l : List UInt8) (row : Array Value) (w : World) (hb : PB w b row) (hr : Ring row o e l) :
    Calls Tryz.prog 71 #[.pointer (some ⟨b, o, none⟩)] w fun x w' => ∃ g, x = .returned (.slice (some ⟨g, 0, none⟩) l.length l.length) ∧ w.heap.size ≤ g ∧ Bt w' g l ∧ Below w.heap.size w w' := by
  have hL := length_at b o e l row w hb hr
  have HH : Hid (PB w b row) := hb
  have HR : Hid (Ring row o e l) := hr
  have hl8 := hr.len
  have hmk := make_bytes l.length hl8
  have HZ : Hid (brow l 0 = Array.replicate l.length (.int .u8 0)) := brow_zero l
  have HSt : Hid (∀ k, k < l.length → (brow l k).setIfInBounds k (.int .u8 (byt l k)) = brow l (k + 1)) := brow_set l
  have HFin : Hid (∀ W g, W.heap[g]? = some (.cells (brow l l.length) 5 (0, 0)) → Bt W g l) := fun W g h => brow_bt h
  have HGet : Hid (∀ k, k < l.length → (brow l k)[k]? = some (.int .u8 0)) := fun k hk => by rw [brow_get l k k hk, if_neg (by omega)]
  generalize hq : l.length = L at *
  have HQ : Hid (l.length = L) := hq
  clear hb hr hq
  go_enter Tryz.func71, Tryz.ntmps71
  go_wp2_with fail
  refine hL.mono ?_
  rintro x w1 ⟨rfl, hb1⟩
  have HB1 : Hid (Below w.heap.size w w1) := hb1
  have hs1 := hb1.size
  clear hL hb1
  go_wp2
  rw [← HZ.out]
  clear hmk HZ
  have HN0 : Hid ((w1.alloc (.cells (brow l 0) 5)).heap[w1.heap.size]? = some (.cells (brow l 0) 5 (0, 0))) := heap_alloc_new _ _
  have HB2 : Hid (Below w.heap.size w (w1.alloc (.cells (brow l 0) 5))) := HB1.out.alloc hs1 _
  generalize w1.alloc (.cells (brow l 0) 5) = W0 at *
  generalize hG : w1.heap.size = G at *
  clear hG HB1
  go_loopw [10] (fun i wr => ∃ (k : Nat), k ≤ L ∧ i = .int .i64 k ∧ wr.heap[G]? = some (.cells (brow l k) 5 (0, 0)) ∧ Below w.heap.size w wr) (fun i _ => L - (intOf i).toNat)
  case atStart => exact ⟨0, by omega, rfl, HN0.out, HB2.out⟩
  case round =>
    clear HN0 HB2
    obtain ⟨k, hk, rfl, hN, hB⟩ := hrel
    have HB : Hid (Below w.heap.size w wr) := hB
    have HN : Hid (wr.heap[G]? = some (.cells (brow l k) 5 (0, 0))) := hN
    by_cases hlt : k < L
    · have g0 : decide ((k : Int) < (L : Int)) = true := decide_eq_true (by omega)
      have hki : (k : Int) < (L : Int) := by omega
      have hP := HH.out.below hB
      have hA := at_at b o e k l row wr hP HR.out (by omega)
      have c0 : wr.drew.cell? ⟨b, o + (e + k) % 8 * 2 + 1, none⟩ = _ := (hP.drew.cell _).trans (HR.out.val k (by omega))
      have c1 : wr.drew.cell? ⟨G, k, none⟩ = some (.int .u8 0) := (cell_of_heap (w := wr.drew) hN).trans (HGet.out k hlt)
      have f1 : wr.drew.frozen? ⟨G, k, none⟩ = false := frozen_of_heap (w := wr.drew) hN
      have HS : Hid ((brow l k).setIfInBounds k (.int .u8 (byt l k)) = brow l (k + 1)) := HSt.out k hlt
      generalize byt l k = z at *
      generalize (e + k) % 8 = p at *
      clear hP hB hN
      go_wp2_with fail
      refine hA.mono ?_
      rintro x w2 ⟨rfl, hw⟩
      rw [hw]
      clear hw w2 hA
      go_wp2
      go_roundw
      case rel =>
        refine ⟨k + 1, by omega, by go_num, ?_, HB.out.drew.trans ((Upd.setCell G k _ _).below hs1 (by have := HB.out.size; simpa using this))⟩
        show (wr.setCell _ _).heap[G]? = _
        rw [setCell_eq_setRow wr G k _ _ _ _ HN.out, setRow_heap wr G _ _ _ _ HN.out, HS.out]
      case measure => simp [intOf]; omega
    · obtain rfl : k = L := by omega
      have g0 : decide ((k : Int) < (k : Int)) = false := decide_eq_false (by omega)
      clear hB hN
      go_wp2
      go_ret
      exact ⟨G, rfl, hs1, HFin.out _ _ HN.out, HB.out⟩
theorem elemB : Tryz.prog.elem 157 = 5 := by kernel_rfl
set_option maxRecDepth 100000 in
/-- l[:k] of bytes. -/
theorem cut_bytes (g n cap k : Nat) (hk : k ≤ cap) (V : World) : (Instr.slice 157 (.slice (some ⟨g, 0, none⟩) n cap) none (some (.int .i64 (k : Int))) none).run Tryz.prog V = .ok (.slice (some ⟨g, 0, none⟩) k cap) V := by
  obtain ⟨i0, hi0, hzz⟩ := Option.map_eq_some_iff.1 byteInfo
  simp only [Prod.mk.injEq] at hzz
  have hk1 : (k : Int) ≤ (cap : Int) := by omega
  rw [run_slice_h V 157 _ _ _ Tryz.underlying157 _ _ (by omega) hk1]
  simp [sizeOf, typeInfo, elemB, hi0, sliced, Addr.add]
theorem byt_drop0 {l : List UInt8} {k : Nat} {x : UInt8} (h : l[k]? = some x) : l.drop k = x :: l.drop (k + 1) := by
  obtain ⟨hl, he⟩ := List.getElem?_eq_some_iff.1 h
  rw [List.drop_eq_getElem_cons hl, he]
set_option maxRecDepth 100000 in
set_option maxHeartbeats 4000000 in
theorem rtake_at (b o e : Nat) (l : List UInt8) (n : Int) (row : Array Value) (w : World) (hb : PB w b row) (hr : Ring row o e l) :
    Calls Tryz.prog 275 #[.pointer (some ⟨b, o, none⟩), .int .i64 n] w fun x w' => x = .returned (tx (l.take (tk l n))) ∧ ∃ row' e', PB w' b row' ∧ Ring row' o e' (l.drop (tk l n)) ∧ Same o row row' ∧ Upd b w w' := by
  have hBy := bytes_at b o e l row w hb hr
  have HH : Hid (PB w b row) := hb
  have HR : Hid (Ring row o e l) := hr
  have hl8 := hr.len
  have hm : min (max n 0) (l.length : Int) = (tk l n : Int) := by unfold tk; omega
  have htl := tk_le l n
  generalize tk l n = m at *
  have hlt8 : (l.take m).length = m := by rw [List.length_take]; omega
  generalize hq : l.length = L at *
  have HQ : Hid (l.length = L) := hq
  clear hb hr hq
  go_enter Tryz.func275, Tryz.ntmps275
  go_wp2_with fail
  refine hBy.mono ?_
  rintro x w1 ⟨g, rfl, hg, hbt, hb1⟩
  have hcut := cut_bytes g L L m htl
  have HBt : Hid (Bt w1 g (l.take m)) := hbt.take m
  have HB1 : Hid (Below w.heap.size w w1) := hb1
  have HP1 : Hid (PB w1 b row) := HH.out.below hb1
  have HLT : Hid ((l.take m).length = m) := hlt8
  clear hBy hb1 hbt HH hlt8
  go_wp2
  clear hcut hm
  go_loopw [17] (fun i wr => ∃ (k : Nat) (row' : Array Value) (e' : Nat), k ≤ m ∧ i = .int .i64 k ∧ PB wr b row' ∧ Ring row' o e' (l.drop k) ∧ Same o row row' ∧ Upd b w1 wr) (fun i _ => m - (intOf i).toNat)
  case atStart => exact ⟨0, row, e, by omega, rfl, HP1.out, by simpa using HR.out, Same.refl _ _, Upd.refl _ _⟩
  case round =>
    obtain ⟨k, row', e', hk, rfl, hP, hRg, hSm, hU⟩ := hrel
    have HPB : Hid (PB wr b row') := hP
    have HRg : Hid (Ring row' o e' (l.drop k)) := hRg
    have HSm : Hid (Same o row row') := hSm
    have HU : Hid (Upd b w1 wr) := hU
    by_cases hlt : k < m
    · have g0 : decide ((k : Int) < (m : Int)) = true := decide_eq_true (by omega)
      have hA := at_at b o e' 0 _ row' wr hP hRg (by omega)
      have he := hRg.el
      rw [Nat.add_zero, Nat.mod_eq_of_lt he] at hA
      have c0 := (hP.cell _).trans (hRg.used 0 (by omega))
      have c1 := (hP.cell _).trans (hRg.val 0 (by omega))
      have c2 := (hP.cell _).trans hRg.eld
      rw [show (e' + 0) % 8 = e' by omega] at c0 c1
      have f0 := hP.free (o + e' * 2)
      have f1 := hP.free (o + e' * 2 + 1)
      have f2 := hP.free (o + 16)
      have n0 : o + e' * 2 ≠ o + 16 := by omega
      have n1 : o + e' * 2 + 1 ≠ o + 16 := by omega
      obtain ⟨x, hx⟩ : ∃ x, l[k]? = some x := ⟨l[k]'(by rw [HQ.out]; omega), List.getElem?_eq_getElem _⟩
      have hd := byt_drop0 hx
      rw [hd] at hRg
      have HN : Hid (Ring (((row'.setIfInBounds (o + e' * 2) (.bool false)).setIfInBounds (o + e' * 2 + 1) (.int .u8 0)).setIfInBounds (o + 16) (.int .i64 (((e' + 1) % 8 : Nat) : Int))) o ((e' + 1) % 8) (l.drop (k + 1))) := hRg.pop
      have hsum : IntKind.i64.wrap ((e' : Int) + 1) = (e' : Int) + 1 := by simp [IntKind.wrap, IntKind.bits, IntKind.signed]; omega
      obtain ⟨p, hp⟩ : ∃ p, p = (e' + 1) % 8 := ⟨_, rfl⟩
      have hrem : ((e' : Int) + 1).tmod 8 = (p : Int) := by rw [hp, Int.tmod_eq_emod_of_nonneg (by omega)]; omega
      have hrem2 : ((e' : Int) + 1) % 8 = (p : Int) := by rw [hp]; omega
      rw [← hp] at HN
      have c0' : wr.drew.cell? ⟨b, o + e' * 2, none⟩ = _ := c0
      have c1' : wr.drew.cell? ⟨b, o + e' * 2 + 1, none⟩ = _ := c1
      have c2' : wr.drew.cell? ⟨b, o + 16, none⟩ = _ := c2
      have f0' : wr.drew.frozen? ⟨b, o + e' * 2, none⟩ = false := f0
      have f1' : wr.drew.frozen? ⟨b, o + e' * 2 + 1, none⟩ = false := f1
      have f2' : wr.drew.frozen? ⟨b, o + 16, none⟩ = false := f2
      clear hP hRg hSm hU hx hd hp
      go_wp2_with fail
      refine hA.mono ?_
      rintro x2 w2 ⟨rfl, hw⟩
      rw [hw]
      clear hw w2 hA
      go_wp2
      go_roundw
      case rel =>
        exact ⟨k + 1, _, p, by omega, by go_num, PB.set (PB.set (PB.set (PB.drew HPB.out) _ _) _ _) _ _, HN.out, HSm.out.trans (((Same.set _ _ _ (by omega) (by omega)).trans (Same.set _ _ _ (by omega) (by omega))).trans (Same.set _ _ _ (by omega) (by omega))), HU.out.trans ((Upd.drew b _).trans (((Upd.setCell _ _ _ _).trans (Upd.setCell _ _ _ _)).trans (Upd.setCell _ _ _ _)))⟩
      case measure => simp [intOf]; omega
    · obtain rfl : k = m := by omega
      have g0 : decide ((k : Int) < (k : Int)) = false := decide_eq_false (by omega)
      have hst : ∀ c, (convert 157 9 (.slice (some ⟨g, 0, none⟩) k c)).run Tryz.prog wr = .ok (tx (l.take k)) wr := fun c => by
        have h1 : Bt wr g (l.take k) := HBt.out.keep (HU.out.block g HBt.out.lt (HBt.out.ne HP1.out))
        have := h1.string (cap := c)
        rw [HLT.out] at this
        exact this
      clear hP hRg hSm hU
      go_wp2
      go_ret
      exact ⟨rfl, row', e', HPB.out, HRg.out, HSm.out, (Upd.of_below HB1.out).trans HU.out⟩
/-- A ring without bytes. -/
def nop : List Value := [.bool false, .int .u8 0, .bool false, .int .u8 0, .bool false, .int .u8 0, .bool false, .int .u8 0, .bool false, .int .u8 0, .bool false, .int .u8 0, .bool false, .int .u8 0, .bool false, .int .u8 0]
theorem nop_get (j : Nat) (hj : j < 8) : nop[j * 2]? = some (.bool false) ∧ nop[j * 2 + 1]? = some (.int .u8 0) := by
  obtain rfl | rfl | rfl | rfl | rfl | rfl | rfl | rfl : j = 0 ∨ j = 1 ∨ j = 2 ∨ j = 3 ∨ j = 4 ∨ j = 5 ∨ j = 6 ∨ j = 7 := by omega
  all_goals exact ⟨rfl, rfl⟩
end Pp
end Go.Proofs.YtikjfdihocgfpaaGreatDoor
namespace Go.Proofs.YtikjfdihocgfpaaGreatDoor
open Go.RowKit Go.Lib
namespace Ow
end Ow
namespace Pp
open Ow
/-- A row that says S. -/
structure PpR (row : Array Value) (S : PS) : Prop where
  size : row.size = 288
  made : ∀ i, i < 16 → row[i]? = some (.bool (S i).isSome)
  ring : ∀ i, i < 16 → ∃ e, Ring row (16 + i * 17) e ((S i).getD [])
theorem PpR.fits {row : Array Value} {S : PS} (h : PpR row S) : Fit8 S := by
  intro i l hi hl
  obtain ⟨e, hr⟩ := h.ring i hi
  rw [hl] at hr
  exact hr.len
theorem PpR.put {row row' : Array Value} {S : PS} (h : PpR row S) {i e' : Nat} {l' : List UInt8} (hi : i < 16) (hs : Same (16 + i * 17) row row') (hr : Ring row' (16 + i * 17) e' l') (hm : (S i).isSome = true) : PpR row' (S.set i (some l')) := by
  refine ⟨hs.1.trans h.size, fun j hj => ?_, fun j hj => ?_⟩
  · rw [hs.2 j (by omega), h.made j hj]
    by_cases e : j = i
    · subst e; rw [PS.set_same, hm]; rfl
    · rw [PS.set_other _ _ _ _ e]
  · by_cases e : j = i
    · subst e; rw [PS.set_same]; exact ⟨e', hr⟩
    · rw [PS.set_other _ _ _ _ e]
      obtain ⟨e2, h2⟩ := h.ring j hj
      exact ⟨e2, h2.keep hs.1 (fun k h3 h4 => hs.2 k (by omega))⟩
theorem PpR.mk' {row : Array Value} {S : PS} (h : PpR row S) {i : Nat} (hi : i < 16) (hm : S i = none) : PpR (row.setIfInBounds i (.bool true)) (S.set i (some [])) := by
  have hs := h.size
  refine ⟨by rw [Array.size_setIfInBounds]; exact hs, fun j hj => ?_, fun j hj => ?_⟩
  · rw [Array.getElem?_setIfInBounds]
    by_cases e : i = j
    · subst e; rw [if_pos rfl, if_pos (by omega), PS.set_same]; rfl
    · rw [if_neg e, PS.set_other _ _ _ _ (fun q => e q.symm)]; exact h.made j hj
  · obtain ⟨e2, h2⟩ := h.ring j hj
    refine ⟨e2, ?_⟩
    have h3 : ((S.set i (some [])) j).getD [] = (S j).getD [] := by
      by_cases e : j = i
      · subst e; rw [PS.set_same, hm]; rfl
      · rw [PS.set_other _ _ _ _ e]
    rw [h3]
    exact h2.keep (by simp) (fun k h3 h4 => by rw [Array.getElem?_setIfInBounds, if_neg (by omega)])
/-- Block b holds the pipes S. -/
def PpAt (w : World) (b : Nat) (S : PS) : Prop := ∃ row, PB w b row ∧ PpR row S
section
variable {w w' : World} {b : Nat} {S : PS}
theorem PpAt.lt (h : PpAt w b S) : b < w.heap.size := by
  obtain ⟨row, hr, _⟩ := h
  exact hr.lt
theorem PpAt.keep (h : PpAt w b S) (hb : w'.heap[b]? = w.heap[b]?) : PpAt w' b S := by
  obtain ⟨row, hr, h1⟩ := h
  exact ⟨row, hr.keep hb, h1⟩
theorem PpAt.below (h : PpAt w b S) (hb : Below w.heap.size w w') : PpAt w' b S := h.keep (hb.block _ h.lt)
theorem PpAt.fits (h : PpAt w b S) : Fit8 S := by
  obtain ⟨row, _, h1⟩ := h
  exact h1.fits
end
theorem ptr_eq (b : Nat) (W : World) : (binOp .eql 71 (.pointer (some ⟨b, 0, none⟩)) (.pointer none)).run Tryz.prog W = .ok (.bool false) W := by go_simp
theorem rptr_eq (b o : Nat) (W : World) : (binOp .eql 239 (.pointer (some ⟨b, o, none⟩)) (.pointer none)).run Tryz.prog W = .ok (.bool false) W := by go_simp
/-- The cells of pipes of which there is none. -/
def nrow : Array Value := (List.replicate 16 (Value.bool false) ++ (List.replicate 16 (nop ++ [Value.int .i64 0])).flatten).toArray
theorem ring_of {row : Array Value} {o : Nat} (h : o + 17 ≤ row.size) (h1 : ∀ i, i < 17 → row[o + i]? = (nop ++ [Value.int .i64 0])[i]?) : Ring row o 0 [] := by
  refine ⟨h, by omega, by simp, (h1 16 (by omega)).trans rfl, fun j hj => ?_, fun j hj => ?_⟩
  · rw [Nat.zero_add, Nat.mod_eq_of_lt hj, h1 _ (by omega), List.getElem?_append_left (by show j * 2 < 16; omega), (nop_get j hj).1]
    rfl
  · rw [Nat.zero_add, Nat.mod_eq_of_lt hj, Nat.add_assoc, h1 _ (by omega), List.getElem?_append_left (by show j * 2 + 1 < 16; omega), (nop_get j hj).2, byt_no (by simp)]
theorem flat_get (z : List Value) (m : Nat) (hz : z.length = 17) : ∀ i j, i < m → j < 17 → ((List.replicate m z).flatten)[i * 17 + j]? = z[j]? := by
  induction m with
  | zero => intro i j hi; omega
  | succ m ih =>
    intro i j hi hj
    rw [List.replicate_succ, List.flatten_cons]
    cases i with
    | zero => rw [List.getElem?_append_left (by omega)]; congr 1; omega
    | succ i =>
      rw [List.getElem?_append_right (by omega), hz, show (i + 1) * 17 + j - 17 = i * 17 + j by omega]
      exact ih i j (by omega) hj
theorem flat_len (z : List Value) (hz : z.length = 17) : ∀ m, ((List.replicate m z).flatten).length = m * 17
  | 0 => rfl
  | m + 1 => by rw [List.replicate_succ, List.flatten_cons, List.length_append, flat_len z hz m, hz]; omega
theorem nrow_R : PpR nrow PS.none := by
  have hz : (nop ++ [Value.int .i64 0]).length = 17 := rfl
  have h1 : nrow.size = 288 := by
    unfold nrow
    rw [List.size_toArray, List.length_append, flat_len _ hz, List.length_replicate]
  refine ⟨h1, fun i hi => ?_, fun i hi => ⟨0, ring_of (by omega) (fun j hj => ?_)⟩⟩
  · unfold nrow
    rw [List.getElem?_toArray, List.getElem?_append_left (by simpa using hi), List.getElem?_replicate, if_pos hi]
    rfl
  · unfold nrow
    rw [List.getElem?_toArray, List.getElem?_append_right (by simp; omega), List.length_replicate, show 16 + i * 17 + j - 16 = i * 17 + j by omega]
    exact flat_get _ 16 hz i j hi hj
theorem nrow_zero : (Tryz.prog.info? 180).map (·.zero) = some (some (.agg nrow)) := by kernel_rfl
theorem zero_pipes (W : World) : (zeroValue 180).run Tryz.prog W = .ok (.agg nrow) W := by
  obtain ⟨i, hi, hz⟩ := Option.map_eq_some_iff.1 nrow_zero
  simp [zeroValue, typeInfo, hi, hz]
set_option maxRecDepth 100000 in
theorem new_at (w : World) :
    Calls Tryz.prog 55 #[] w fun x w' => x = .returned (.pointer (some ⟨w.heap.size, 0, none⟩)) ∧ PpAt w' w.heap.size PS.none ∧ Below w.heap.size w w' ∧ w'.heap.size = w.heap.size + 1 := by
  have HR : Hid (PpR nrow PS.none) := nrow_R
  have hz := zero_pipes
  generalize nrow = R at *
  go_enter Tryz.func55, Tryz.ntmps55
  go_wp2
  go_ret
  exact ⟨rfl, ⟨R, heap_alloc_new _ _, HR.out⟩, below_alloc _ _, by simp⟩
theorem ring_no (b : Nat) (S : PS) (n : Int) (w : World) (h : PpAt w b S) (hn : has S n = false) :
    Calls Tryz.prog 274 #[.pointer (some ⟨b, 0, none⟩), .int .i64 n] w fun x w' => x = .returned (.pointer none) ∧ w' = w := by
  have hne := ptr_eq b
  obtain ⟨row, hP, hR⟩ := h
  rcases has_no hn with hc | hc | ⟨i, rfl, hi, hs⟩
  · have g0 : decide (n < 0) = true := decide_eq_true hc
    clear hn hP hR
    go_enter Tryz.func274, Tryz.ntmps274
    go_wp2
    go_ret
    exact ⟨rfl, rfl⟩
  · have g0 : decide (n < 0) = false := decide_eq_false (by omega)
    have g1 : decide (16 ≤ n) = true := decide_eq_true hc
    clear hn hP hR
    go_enter Tryz.func274, Tryz.ntmps274
    go_wp2
    go_ret
    exact ⟨rfl, rfl⟩
  · have g0 : decide ((i : Int) < 0) = false := decide_eq_false (by omega)
    have g1 : decide (16 ≤ (i : Int)) = false := decide_eq_false (by omega)
    have hii : (i : Int) < 16 := by omega
    have c0 := (hP.cell i).trans (hR.made i hi)
    rw [hs] at c0
    dsimp only [Option.isSome] at c0
    clear hn hP hR hs
    go_enter Tryz.func274, Tryz.ntmps274
    go_wp2
    go_ret
    exact ⟨rfl, rfl⟩
theorem ring_yes (b i : Nat) (l : List UInt8) (S : PS) (w : World) (h : PpAt w b S) (hi : i < 16) (hs : S i = some l) :
    Calls Tryz.prog 274 #[.pointer (some ⟨b, 0, none⟩), .int .i64 i] w fun x w' => x = .returned (.pointer (some ⟨b, 16 + i * 17, none⟩)) ∧ w' = w := by
  have hne := ptr_eq b
  obtain ⟨row, hP, hR⟩ := h
  have g0 : decide ((i : Int) < 0) = false := decide_eq_false (by omega)
  have g1 : decide (16 ≤ (i : Int)) = false := decide_eq_false (by omega)
  have hii : (i : Int) < 16 := by omega
  have c0 := (hP.cell i).trans (hR.made i hi)
  rw [hs] at c0
  dsimp only [Option.isSome] at c0
  clear hP hR hs
  go_enter Tryz.func274, Tryz.ntmps274
  go_wp2
  go_ret
  exact ⟨rfl, rfl⟩
theorem put_at (b : Nat) (S : PS) (n : Int) (s : List UInt8) (w : World) (h : PpAt w b S) :
    Calls Tryz.prog 229 #[.pointer (some ⟨b, 0, none⟩), .int .i64 n, tx s] w fun x w' => x = .returned (.int .i64 (puI S n s)) ∧ PpAt w' b (puS S n s) ∧ Upd b w w' := by
  cases hh : has S n with
  | false =>
    have hR := ring_no b S n w h hh
    have HH : Hid (PpAt w b S) := h
    have HI : Hid (puI S n s = 0) := by show _ = _; unfold puI; rw [hh]; rfl
    have HS : Hid (puS S n s = S) := by show _ = _; unfold puS; rw [hh]; rfl
    clear h hh
    go_enter Tryz.func229, Tryz.ntmps229
    go_wp2_with fail
    refine hR.mono ?_
    rintro x w1 ⟨rfl, hw⟩
    rw [hw]
    clear hw w1 hR
    go_wp2
    go_ret
    exact ⟨by rw [HI.out]; rfl, by rw [HS.out]; exact HH.out, Upd.refl _ _⟩
  | true =>
    obtain ⟨i, l, rfl, hi, hl⟩ := has_nat hh
    have hR := ring_yes b i l S w h hi hl
    obtain ⟨row, hP, hQ⟩ := h
    obtain ⟨e, hr⟩ := hQ.ring i hi
    rw [hl] at hr
    have hPu := rput_at b (16 + i * 17) e l s row w hP hr
    have hne := rptr_eq b (16 + i * 17)
    have HI : Hid (puI S i s = (putN l s : Int)) := by show _ = _; unfold puI; rw [if_pos hh, inn_of hi hl]
    have HS : Hid (puS S i s = S.set i (some (putL l s))) := by show _ = _; unfold puS; rw [if_pos hh, inn_of hi hl, Int.toNat_natCast]
    have HQ : Hid (PpR row S) := hQ
    have HM : Hid ((S i).isSome = true) := by show _ = _; rw [hl]; rfl
    clear hP hQ hr hh hl
    go_enter Tryz.func229, Tryz.ntmps229
    go_wp2_with fail
    refine hR.mono ?_
    rintro x w1 ⟨rfl, hw⟩
    rw [hw]
    clear hw w1 hR
    go_wp2_with fail
    refine hPu.mono ?_
    rintro x w1 ⟨rfl, row', hP', hr', hsm, hu⟩
    have HF : Hid (PpAt w1 b (S.set i (some (putL l s)))) := ⟨row', hP', HQ.out.put hi hsm hr' HM.out⟩
    have HU : Hid (Upd b w w1) := hu
    clear hPu hP' hr' hsm hu
    go_wp2
    go_ret
    exact ⟨by rw [HI.out]; rfl, by rw [HS.out]; exact HF.out, HU.out⟩
theorem take_at (b : Nat) (S : PS) (n k : Int) (w : World) (h : PpAt w b S) :
    Calls Tryz.prog 226 #[.pointer (some ⟨b, 0, none⟩), .int .i64 n, .int .i64 k] w fun x w' => x = .returned (tx (taT S n k)) ∧ PpAt w' b (taS S n k) ∧ Upd b w w' := by
  cases hh : has S n with
  | false =>
    have hR := ring_no b S n w h hh
    have HH : Hid (PpAt w b S) := h
    have HI : Hid (taT S n k = []) := by show _ = _; unfold taT; rw [inn_no hh]; exact List.take_nil
    have HS : Hid (taS S n k = S) := by show _ = _; unfold taS; rw [hh]; rfl
    clear h hh
    go_enter Tryz.func226, Tryz.ntmps226
    go_wp2_with fail
    refine hR.mono ?_
    rintro x w1 ⟨rfl, hw⟩
    rw [hw]
    clear hw w1 hR
    go_wp2
    go_ret
    exact ⟨by rw [HI.out]; rfl, by rw [HS.out]; exact HH.out, Upd.refl _ _⟩
  | true =>
    obtain ⟨i, l, rfl, hi, hl⟩ := has_nat hh
    have hR := ring_yes b i l S w h hi hl
    obtain ⟨row, hP, hQ⟩ := h
    obtain ⟨e, hr⟩ := hQ.ring i hi
    rw [hl] at hr
    have hTa := rtake_at b (16 + i * 17) e l k row w hP hr
    have hne := rptr_eq b (16 + i * 17)
    have HI : Hid (taT S i k = l.take (tk l k)) := by show _ = _; unfold taT; rw [inn_of hi hl]
    have HS : Hid (taS S i k = S.set i (some (l.drop (tk l k)))) := by show _ = _; unfold taS; rw [if_pos hh, inn_of hi hl, Int.toNat_natCast]
    have HQ : Hid (PpR row S) := hQ
    have HM : Hid ((S i).isSome = true) := by show _ = _; rw [hl]; rfl
    clear hP hQ hr hh hl
    generalize l.take (tk l k) = T1 at *
    generalize l.drop (tk l k) = T2 at *
    go_enter Tryz.func226, Tryz.ntmps226
    go_wp2_with fail
    refine hR.mono ?_
    rintro x w1 ⟨rfl, hw⟩
    rw [hw]
    clear hw w1 hR
    go_wp2_with fail
    refine hTa.mono ?_
    rintro x w1 ⟨rfl, row', e', hP', hr', hsm, hu⟩
    have HF : Hid (PpAt w1 b (S.set i (some T2))) := ⟨row', hP', HQ.out.put hi hsm hr' HM.out⟩
    have HU : Hid (Upd b w w1) := hu
    clear hTa hP' hr' hsm hu
    go_wp2
    go_ret
    exact ⟨by rw [HI.out]; rfl, by rw [HS.out]; exact HF.out, HU.out⟩
end Pp
end Go.Proofs.YtikjfdihocgfpaaGreatDoor
namespace Go.Proofs.YtikjfdihocgfpaaGreatDoor
open Go.RowKit Go.Lib
namespace Ow
end Ow
namespace Pp
open Ow
/-- Which are made, as cells. -/
def mvs (S : PS) : List Value := (List.range 16).map (fun i => Value.bool (S i).isSome)
theorem mvs_len (S : PS) : (mvs S).length = 16 := by simp [mvs]
theorem mvs_get (S : PS) (i : Nat) (hi : i < 16) : (mvs S)[i]? = some (.bool (S i).isSome) := by
  unfold mvs
  rw [List.getElem?_map, List.getElem?_range hi]
  rfl
theorem mvs_range {w : World} {b : Nat} {row : Array Value} {S : PS} (hP : PB w b row) (hR : PpR row S) : w.rangeAt b 0 (mvs S) := by
  intro j v hv
  have hj : j < 16 := by have := (List.getElem?_eq_some_iff.1 hv).1; rwa [mvs_len] at this
  rw [mvs_get S j hj] at hv
  rw [Nat.zero_add, hP.cell, hR.made j hj]
  exact hv
theorem bools16 : (Tryz.prog.info? 136).map (·.size) = some 16 := by kernel_rfl
theorem made_index (S : PS) (p : Nat) (hp : p < 16) (W : World) : (Instr.index 136 (.agg (mvs S).toArray) (.int .i64 p)).run Tryz.prog W = .ok (.bool (S p).isSome) W := by
  have h1 : (mvs S).toArray[p * 1]? = some (.bool (S p).isSome) := by
    rw [Nat.mul_one, List.getElem?_toArray, mvs_get S p hp]
  have hs : (sizeOf 4).run Tryz.prog W = .ok 1 W := by kernel_rfl
  have ha : (isAgg 4).run Tryz.prog W = .ok false W := by kernel_rfl
  have hi : 0 ≤ (p : Int) ∧ (p : Int) < (16 : Nat) := by omega
  simp only [Instr.index, Sem.run_bind, asIntOf, Sem.run_pure, Result.andThen_ok, run_underlying Tryz.underlying136, if_pos hi, hs, part, ha, Int.toNat_natCast, h1, Bool.false_eq_true, if_false]
set_option maxHeartbeats 2000000 in
theorem make_at (b : Nat) (S : PS) (w : World) (h : PpAt w b S) :
    Calls Tryz.prog 172 #[.pointer (some ⟨b, 0, none⟩)] w fun x w' => x = .returned (.tuple #[.int .i64 (mkI S), .int .i64 (mkE S)]) ∧ PpAt w' b (mkS S) ∧ Upd b w w' := by
  obtain ⟨row, hP, hR⟩ := h
  have hne := ptr_eq b
  have HL : Hid (w.rangeAt b 0 (mvs S)) := mvs_range hP hR
  have HP : Hid (PB w b row) := hP
  have HR : Hid (PpR row S) := hR
  have hll : (mvs S).length = 16 := mvs_len S
  clear hP hR
  go_enter Tryz.func172, Tryz.ntmps172
  go_wp2_with (first | (refine wpList_load_mid rfl 136 _ rfl b 0 rfl (mvs S) _ HL.out Tryz.underlying136 rfl (by rw [hll]; exact bools16) ?_) | go_in)
  clear HL hll
  go_loopw [12] (fun s wr => ∃ (k : Nat), k ≤ 16 ∧ s = .int .i64 k ∧ free S = lowF S k (16 - k) ∧ wr = w) (fun s _ => 16 - (intOf s).toNat)
  case atStart => exact ⟨0, by omega, rfl, rfl, rfl⟩
  case round =>
    obtain ⟨k, hk, rfl, hf, hw⟩ := hrel
    subst hw
    have HF : Hid (free S = lowF S k (16 - k)) := hf
    clear hf
    by_cases hlt : k < 16
    · have i1 : decide ((k : Int) < 16) = true := decide_eq_true (by omega)
      have hki : (k : Int) < 16 := by omega
      have hix := made_index S k hlt
      have c0 := (HP.out.cell k).trans (HR.out.made k hlt)
      have f0 := HP.out.free k
      have h16 : 16 - k = (16 - (k + 1)) + 1 := by omega
      rw [h16] at HF
      clear h16
      cases hs : S k with
      | none =>
        rw [hs] at hix c0
        dsimp only [Option.isSome] at hix c0
        have HFk : Hid (free S = k) := HF.out.trans (lowF_here hs)
        have HR2 : Hid (PpR (row.setIfInBounds k (.bool true)) (S.set k (some []))) := HR.out.mk' hlt hs
        clear hs HF
        go_wp2
        go_ret2
        refine ⟨?_, ⟨_, HP.out.set _ _, ?_⟩, Upd.setCell _ _ _ _⟩
        · unfold mkI mkE
          rw [HFk.out, if_pos hlt, if_pos hlt]
          rfl
        · unfold mkS
          rw [HFk.out, if_pos hlt]
          exact HR2.out
      | some l =>
        rw [hs] at hix c0
        dsimp only [Option.isSome] at hix c0
        have HF2 : Hid (free S = lowF S (k + 1) (16 - (k + 1))) := HF.out.trans (lowF_next hs)
        clear hs HF
        go_wp2
        go_roundw
        case rel => exact ⟨k + 1, by omega, by go_num, HF2.out, by first | rfl | trivial⟩
        case measure => simp [intOf]; omega
    · have i1 : decide ((k : Int) < 16) = false := decide_eq_false (by omega)
      have HFk : Hid (¬ free S < 16) := by
        show ¬ _
        rw [HF.out, show 16 - k = 0 by omega]
        unfold lowF
        omega
      clear HF
      go_wp2
      go_ret2
      refine ⟨?_, ?_, Upd.refl _ _⟩
      · unfold mkI mkE
        rw [if_neg HFk.out, if_neg HFk.out]
        rfl
      · unfold mkS
        rw [if_neg HFk.out]
        exact ⟨row, HP.out, HR.out⟩
/-- What an append of words may touch. -/
structure UW (B : Nat) (w w' : World) : Prop where
  bel : Below B w w'
  oth : ∀ (k : Nat) (cs : Array Value) (t : TypeId) (fz : Nat × Nat), w.heap[k]? = some (.cells cs t fz) → t ≠ 46 → w'.heap[k]? = w.heap[k]?
theorem UW.trans {B : Nat} {a b c : World} (h : UW B a b) (k : UW B b c) : UW B a c :=
  ⟨h.bel.trans k.bel, fun i cs t fz hi ht => by
    have h1 := h.oth i cs t fz hi ht
    exact (k.oth i cs t fz (h1.trans hi) ht).trans h1⟩
theorem UW.bt {B : Nat} {w w' : World} (h : UW B w w') {g : Nat} {l : List UInt8} (hb : Bt w g l) : Bt w' g l := by
  obtain ⟨cur, h1, h2⟩ := hb
  exact ⟨cur, (h.oth g _ _ _ h1 (by decide)).trans h1, h2⟩
end Pp
end Go.Proofs.YtikjfdihocgfpaaGreatDoor
