/- januslaw20: awake; machines that came in. -/
import Derived.Test.YtliifpknkdjgjaaSgL
import Derived.Test.YtliifpknkdjgjaaKinds
namespace Go.Proofs.Ytliifpknkdjgjaa
open Go.ChangeShapes Go.WideShapes Go.ChangeAt Go.RowKit Go.Lib
set_option linter.unusedVariables false

theorem upd_below {b : Nat} {w W V : World} (h : Below w.heap.size w W) (hu : Upd b W V) (hb : w.heap.size ≤ b) : Below w.heap.size w V := h.trans (hu.below hb h.size)
def aw1 : SS := sdS (sdS SS.first 1 10) 1 2
def aw2 : SS := nxS aw1 1
def aw3 : SS := nxS aw2 1
def aw4 : SS := nxS aw3 1
def aw5 : SS := seS aw4 1 9 5
def aw6 : SS := seS aw5 1 2 18446744073709551614
def aw7 : SS := sdS aw6 1 2
def aw8 : SS := nxS aw7 1
def aw9 : SS := enS aw8 1 4 []
def aw10 : SS := leS aw9 1
def aw11 : SS := leS aw10 1
theorem aw_ok1 : SOk (sdS SS.first 1 10) := ok_sd ok_first _ _
theorem aw_ok2 : SOk aw1 := ok_sd aw_ok1 _ _
theorem aw_ok3 : SOk aw2 := ok_nx aw_ok2 _
theorem aw_ok4 : SOk aw3 := ok_nx aw_ok3 _
theorem aw_ok5 : SOk aw4 := ok_nx aw_ok4 _
theorem aw_ok6 : SOk aw5 := ok_se aw_ok5 _ _ _ (by omega)
theorem aw_ok7 : SOk aw6 := ok_se aw_ok6 _ _ _ (by omega)
theorem aw_ok8 : SOk aw7 := ok_sd aw_ok7 _ _
theorem aw_ok9 : SOk aw8 := ok_nx aw_ok8 _
theorem aw_ok10 : SOk aw9 := ok_en aw_ok9 _ _ _ (by omega) (by omega) (by simp) (fun x hx => by simp at hx)
theorem aw_ok11 : SOk aw10 := ok_le aw_ok10 _
theorem aw_ok12 : SOk aw11 := ok_le aw_ok11 _
theorem aw_1i : nxI aw1 1 = 2 := by kernel_rfl
theorem aw_1h : nxH aw1 1 = 18446744073709551615 := by kernel_rfl
theorem aw_1b : nxB aw1 1 = true := by kernel_rfl
theorem aw_2i : nxI aw2 1 = 10 := by kernel_rfl
theorem aw_2b : nxB aw2 1 = true := by kernel_rfl
theorem aw_3b : nxB aw3 1 = false := by kernel_rfl
theorem aw_7b : nxB aw7 1 = false := by kernel_rfl
theorem aw_e : seE 1 9 = 22 := by kernel_rfl
theorem aw_f : seE 1 2 = 0 := by kernel_rfl
theorem aw_g : enE aw8 1 = 0 := by kernel_rfl
theorem aw_i : leE aw9 1 = 0 := by kernel_rfl
theorem aw_p : lePc aw9 1 = 4 := by kernel_rfl
theorem aw_j : leE aw10 1 = 22 := by kernel_rfl
theorem aw_k : sdE 0 2 = 3 := by kernel_rfl
set_option maxRecDepth 100000 in
set_option maxHeartbeats 4000000 in
theorem awake_at (w : World) :
    Calls Try.prog 16 #[] w fun x w' => x = .returned (.bool true) ∧ Below w.heap.size w w' := by
  have hN := new_at w
  obtain ⟨b, hb⟩ : ∃ b, b = w.heap.size := ⟨_, rfl⟩
  rw [← hb] at hN
  have HB : Hid (b = w.heap.size) := hb
  have hne := ptr_eq b 0
  clear hb
  go_enter Try.func16, Try.ntmps16
  go_wp2_with fail
  refine hN.mono ?_
  rintro x w1 ⟨rfl, hA, hb1⟩
  have HB1 : Hid (Below w.heap.size w w1) := by rw [← HB.out]; exact hb1
  have h := send_at b SS.first 1 10 w1 hA ok_first
  generalize sdE 1 10 = y0 at h
  clear hN hA hb1
  go_wp2_with fail
  refine h.mono ?_
  rintro x w2 ⟨rfl, hA, hu⟩
  have HB2 : Hid (Below w.heap.size w w2) := upd_below HB1.out hu (by rw [HB.out]; exact Nat.le_refl _)
  have hA : SgAt w2 b (sdS SS.first 1 10) := hA
  have h' := send_at b (sdS SS.first 1 10) 1 2 w2 hA aw_ok1
  generalize sdE 1 2 = y1 at h'
  clear h hA hu HB1
  have h := h'
  clear h'
  go_wp2_with fail
  refine h.mono ?_
  rintro x w3 ⟨rfl, hA, hu⟩
  have HB3 : Hid (Below w.heap.size w w3) := upd_below HB2.out hu (by rw [HB.out]; exact Nat.le_refl _)
  have hA : SgAt w3 b (aw1) := hA
  have h' := snext_at b aw1 1 w3 hA aw_ok2
  rw [aw_1i, aw_1h, aw_1b] at h'
  clear h hA hu HB2
  have h := h'
  clear h'
  go_wp2_with fail
  refine h.mono ?_
  rintro x w4 ⟨rfl, hA, hu⟩
  have HB4 : Hid (Below w.heap.size w w4) := upd_below HB3.out hu (by rw [HB.out]; exact Nat.le_refl _)
  have hA : SgAt w4 b (aw2) := hA
  have h' := snext_at b aw2 1 w4 hA aw_ok3
  rw [aw_2i, aw_2b] at h'
  generalize nxH aw2 1 = y2 at h'
  clear h hA hu HB3
  have h := h'
  clear h'
  go_wp2_with fail
  refine h.mono ?_
  rintro x w5 ⟨rfl, hA, hu⟩
  have HB5 : Hid (Below w.heap.size w w5) := upd_below HB4.out hu (by rw [HB.out]; exact Nat.le_refl _)
  have hA : SgAt w5 b (aw3) := hA
  have h' := snext_at b aw3 1 w5 hA aw_ok4
  rw [aw_3b] at h'
  generalize nxI aw3 1 = y3 at h'
  generalize nxH aw3 1 = z3 at h'
  clear h hA hu HB4
  have h := h'
  clear h'
  go_wp2_with fail
  refine h.mono ?_
  rintro x w6 ⟨rfl, hA, hu⟩
  have HB6 : Hid (Below w.heap.size w w6) := upd_below HB5.out hu (by rw [HB.out]; exact Nat.le_refl _)
  have hA : SgAt w6 b (aw4) := hA
  have h' := set_at b aw4 1 9 5 w6 hA aw_ok5
  rw [aw_e] at h'
  clear h hA hu HB5
  have h := h'
  clear h'
  go_wp2_with fail
  refine h.mono ?_
  rintro x w7 ⟨rfl, hA, hu⟩
  have HB7 : Hid (Below w.heap.size w w7) := upd_below HB6.out hu (by rw [HB.out]; exact Nat.le_refl _)
  have hA : SgAt w7 b (aw5) := hA
  have h' := set_at b aw5 1 2 18446744073709551614 w7 hA aw_ok6
  rw [aw_f] at h'
  clear h hA hu HB6
  have h := h'
  clear h'
  go_wp2_with fail
  refine h.mono ?_
  rintro x w8 ⟨rfl, hA, hu⟩
  have HB8 : Hid (Below w.heap.size w w8) := upd_below HB7.out hu (by rw [HB.out]; exact Nat.le_refl _)
  have hA : SgAt w8 b (aw6) := hA
  have h' := send_at b aw6 1 2 w8 hA aw_ok7
  generalize sdE 1 2 = y6 at h'
  clear h hA hu HB7
  have h := h'
  clear h'
  go_wp2_with fail
  refine h.mono ?_
  rintro x w9 ⟨rfl, hA, hu⟩
  have HB9 : Hid (Below w.heap.size w w9) := upd_below HB8.out hu (by rw [HB.out]; exact Nat.le_refl _)
  have hA : SgAt w9 b (aw7) := hA
  have h' := snext_at b aw7 1 w9 hA aw_ok8
  rw [aw_7b] at h'
  generalize nxI aw7 1 = y7 at h'
  generalize nxH aw7 1 = z7 at h'
  clear h hA hu HB8
  have h := h'
  clear h'
  go_wp2_with fail
  refine h.mono ?_
  rintro x w10 ⟨rfl, hA, hu⟩
  have HB10 : Hid (Below w.heap.size w w10) := upd_below HB9.out hu (by rw [HB.out]; exact Nat.le_refl _)
  have hA : SgAt w10 b (aw8) := hA
  have h' := enter_at b aw8 1 4 none 0 0 [] w10 hA (Rd.nil _ _) rfl (by omega)
  rw [aw_g] at h'
  clear h hA hu HB9
  have h := h'
  clear h'
  go_wp2_with fail
  refine h.mono ?_
  rintro x w11 ⟨rfl, hA, hu⟩
  have HB11 : Hid (Below w.heap.size w w11) := upd_below HB10.out hu (by rw [HB.out]; exact Nat.le_refl _)
  have hA : SgAt w11 b (aw9) := hA
  have h' := leave_at b aw9 1 w11 hA
  rw [aw_i, aw_p] at h'
  clear h hA hu HB10
  have h := h'
  clear h'
  go_wp2_with fail
  refine h.mono ?_
  rintro x w12 ⟨a9, c9, rfl, -, -, hA, hu⟩
  have HB12 : Hid (Below w.heap.size w w12) := upd_below HB11.out hu (by rw [HB.out]; exact Nat.le_refl _)
  have HA12 : Hid (SgAt w12 b aw10) := hA
  generalize (leSt aw9 1).length = n9 at *
  clear h hA hu HB11
  have hb12 := below_alloc w12 (.cells #[.int .i64 4, .slice a9 n9 c9] 30)
  have h := leave_at b aw10 1 _ (HA12.out.below hb12)
  rw [aw_j] at h
  have HBv : Hid (Below w.heap.size w (w12.alloc (.cells #[.int .i64 4, .slice a9 n9 c9] 30))) := HB12.out.trans (hb12.mono HB12.out.size)
  have Hz : Hid ((w12.alloc (.cells #[.int .i64 4, .slice a9 n9 c9] 30)).heap[w12.heap.size]? = some (.cells #[.int .i64 4, .slice a9 n9 c9] 30 (0, 0))) := heap_alloc_new _ _
  have Hbn : Hid (w12.heap.size ≠ b) := by show w12.heap.size ≠ b; have := HA12.out.lt; omega
  obtain ⟨V, hV⟩ : ∃ V, V = w12.alloc (.cells #[.int .i64 4, .slice a9 n9 c9] 30) := ⟨_, rfl⟩
  obtain ⟨q, hq⟩ : ∃ q, q = w12.heap.size := ⟨_, rfl⟩
  rw [← hV] at h HBv Hz
  rw [← hq] at Hz Hbn
  have HV : Hid _ := hV
  have HQ : Hid _ := hq
  clear hb12 hV hq
  go_wp2_with fail
  rw [← HV.out, ← HQ.out]
  refine h.mono ?_
  rintro x w13 ⟨a10, c10, rfl, -, -, hA, hu⟩
  have HB13 : Hid (Below w.heap.size w w13) := upd_below HBv.out hu (by rw [HB.out]; exact Nat.le_refl _)
  have k13 := (hu.block q (lt_of_heap Hz.out) Hbn.out).trans Hz.out
  have hA11 : SgAt w13 b aw11 := hA
  generalize (leSt aw10 1).length = n10 at *
  generalize lePc aw10 1 = p10 at *
  have hb13 := below_alloc w13 (.cells #[.int .i64 p10, .slice a10 n10 c10] 30)
  obtain ⟨V2, hV2⟩ : ∃ V, V = w13.alloc (.cells #[.int .i64 p10, .slice a10 n10 c10] 30) := ⟨_, rfl⟩
  rw [← hV2] at hb13
  have z0 : V2.cell? ⟨q, 0, none⟩ = some (.int .i64 4) := by rw [cell_of_heap ((hb13.block q (lt_of_heap k13)).trans k13)]; rfl
  have z1 : w13.cell? ⟨q, 0, none⟩ = some (.int .i64 4) := by rw [cell_of_heap k13]; rfl
  have hS := send_at b aw11 0 2 V2 (hA11.below hb13) aw_ok12
  rw [aw_k] at hS
  have HB14 : Hid (Below w.heap.size w V2) := HB13.out.trans (hb13.mono HB13.out.size)
  have hql : q < w13.heap.size := lt_of_heap k13
  have HV2 : Hid _ := hV2
  clear h hA hu hA11 k13 hb13 hV2 HV HQ HB12 HBv Hz Hbn HA12
  go_wp2_with fail
  rw [← HV2.out]
  refine hS.mono ?_
  rintro x w14 ⟨rfl, -, hu⟩
  have HB15 : Hid (Below w.heap.size w w14) := upd_below HB14.out hu (by rw [HB.out]; exact Nat.le_refl _)
  clear hS hu
  go_wp2
  go_ret
  exact ⟨rfl, HB15.out⟩

/-- A deed, its machine's words to be read at va. -/
structure Deed where
  kind : Int
  pid : Int
  sig : Int
  h : Int
  pc : Int
  st : List Int
  va : Option Addr
  vc : Nat
abbrev deedRow (d : Deed) : Array Value := #[.int .i64 d.kind, .int .i64 d.pid, .int .i64 d.sig, .int .u64 d.h, .int .i64 d.pc, .slice d.va d.st.length d.vc]
/-- A deed in its block. -/
def Box (w : World) (D : Nat) (d : Deed) : Prop := w.heap[D]? = some (.cells (deedRow d) 32)
theorem Box.cells {w : World} {D : Nat} {d : Deed} (h : Box w D d) : w.cell? ⟨D, 0, none⟩ = some (.int .i64 d.kind) ∧ w.cell? ⟨D, 1, none⟩ = some (.int .i64 d.pid) ∧ w.cell? ⟨D, 2, none⟩ = some (.int .i64 d.sig) ∧ w.cell? ⟨D, 3, none⟩ = some (.int .u64 d.h) ∧ w.cell? ⟨D, 4, none⟩ = some (.int .i64 d.pc) ∧ w.cell? ⟨D, 5, none⟩ = some (.slice d.va d.st.length d.vc) := by
  refine ⟨?_, ?_, ?_, ?_, ?_, ?_⟩ <;> (rw [cell_of_heap h]; rfl)
theorem Box.below {w w' : World} {D : Nat} {d : Deed} (h : Box w D d) (hb : Below w.heap.size w w') : Box w' D d := (hb.block _ (lt_of_heap h)).trans h
theorem Box.upd {w w' : World} {b D : Nat} {d : Deed} (h : Box w D d) (hu : Upd b w w') (hp : D ≠ b) : Box w' D d := (hu.block _ (lt_of_heap h) hp).trans h
end Go.Proofs.Ytliifpknkdjgjaa
