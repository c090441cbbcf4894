/- januslaw18's awake: true in every world. -/
import Derived.Test.YtkdbmfckfbmbiaaFdS
import Derived.Test.YtkdbmfckfbmbiaaFdR
import Derived.Test.YtkdbmfckfbmbiaaKinds
namespace Go.Proofs.Ytkdbmfckfbmbiaa
open Go.ChangeShapes Go.WideShapes Go.ChangeAt Go.RowKit
set_option linter.unusedVariables false

theorem upd_below {b : Nat} {w w1 w2 : World} (h : Below w.heap.size w w1) (hu : Upd b w1 w2) (hb : w.heap.size ≤ b) : Below w.heap.size w w2 := h.trans (hu.below hb h.size)
def x24 : Fl := ⟨2, 4, 0, false, 0⟩
def q1 : FS := openT FS.zero 1 x24
def q2 : FS := dupT q1 1 0
def q3 : FS := forkT q2 1 2
def q4 : FS := closeT q3 1 0
theorem q1_inv : Inv q1 := Inv.zero.openT 1 _
theorem q2_inv : Inv q2 := q1_inv.dupT 1 0
theorem q3_inv : Inv q3 := q2_inv.forkT 1 2
theorem q4_inv : Inv q4 := q3_inv.closeT 1 0
theorem x24_fit : Fit x24 := by unfold x24; constructor <;> simp
theorem q4_fit : FitS q4 := (((FitS.zero.openT x24_fit).dupT q1_inv 1 0).forkT q2_inv 1 2).closeT q3_inv 1 0
theorem k_open : openA FS.zero 1 = 0 ∧ openE FS.zero 1 = 0 := ⟨by kernel_rfl, by kernel_rfl⟩
theorem k_dup : dupA q1 1 0 = 1 ∧ dupE q1 1 0 = 0 := ⟨by kernel_rfl, by kernel_rfl⟩
theorem k_close : closeX q3 1 0 = ⟨2, 4, 0, false, 3⟩ ∧ getE q3 1 0 = 0 := ⟨by kernel_rfl, by kernel_rfl⟩
theorem k_get : getX q4 2 1 = ⟨2, 4, 0, false, 3⟩ ∧ getE q4 2 1 = 0 := ⟨by kernel_rfl, by kernel_rfl⟩
theorem k_get2 : getE q4 1 0 = 9 := by kernel_rfl
theorem k_left : leftA q4 1 = 5 ∧ leftA q4 9 = 0 := ⟨by kernel_rfl, by kernel_rfl⟩
theorem k_enc : encW q4 = [1, 2, 4, 0, 0, 0, 1, 0, 0, 0, 0, 1, 1, 0, 0, 0, 0, 0, 0, 0, 0, 0, 0, 0, 0, 0, 0, 0, 0, 0, 0, 0, 0, 0, 0, 0, 0, 0, 0, 0, 0, 0, 0, 0, 0, 0, 0, 0, 0, 0, 0, 0, 0] := by kernel_rfl
theorem k_ok : okW (encW q4) = true := by kernel_rfl
theorem enc_u64 {S : FS} (hI : Inv S) (hF : FitS S) : U64 (encW S) := by
  intro x hx
  unfold encW at hx
  rcases List.mem_append.1 hx with hx | hx
  · unfold encH at hx
    rcases List.mem_cons.1 hx with rfl | hx
    · have := ord_len48 S.t
      omega
    · rw [List.mem_flatMap] at hx
      obtain ⟨q, hq, hx⟩ := hx
      obtain ⟨k, hk⟩ := List.mem_iff_getElem?.1 hq
      obtain ⟨_, _, hf⟩ := fit_ord hI hF hk
      obtain ⟨k1, k2, i1, i2, o1, o2⟩ := hf
      simp only [flW, List.mem_cons, List.not_mem_nil, or_false] at hx
      rcases hx with rfl | rfl | rfl | rfl
      · omega
      · omega
      · omega
      · split <;> omega
  · unfold encN at hx
    rw [List.mem_map] at hx
    obtain ⟨i, _, rfl⟩ := hx
    have : inO S.t i ≤ 48 := by
      unfold inO cn
      split
      · omega
      · split
        · rename_i hm
          have := List.idxOf_lt_length_of_mem hm
          have := ord_len48 S.t
          omega
        · omega
    omega

set_option maxHeartbeats 4000000 in
theorem awake_at (w : World) :
    Calls Try.prog 33 #[] w fun e w' => e = .returned (.bool true) ∧ Below w.heap.size w w' := by
  go_enter Try.func33, Try.ntmps33
  go_wp2_with fail
  refine (new_at w).mono ?_
  rintro e w1 ⟨rfl, hF, hB, hsz⟩
  obtain ⟨b, hbq⟩ : ∃ b, b = w.heap.size := ⟨_, rfl⟩
  rw [← hbq] at hF ⊢
  have hbb : w.heap.size ≤ b := by omega
  have HF0 : Hid (FdAt w1 b FS.zero) := hF
  have HB0 : Hid (Below w.heap.size w w1) := hB
  have hne := ptr_eq b
  have hnn := ptr_ne b
  clear hF hB hsz hbq
  go_wp2_with fail
  refine (open_at b FS.zero 1 x24 w1 HF0.out).mono ?_
  rw [k_open.1, k_open.2]
  rintro e w2 ⟨rfl, hF, hU⟩
  have HF2 : Hid (FdAt w2 b q1) := hF
  have HB2 : Hid (Below w.heap.size w w2) := upd_below HB0.out hU hbb
  clear hF hU HF0 HB0
  go_wp2_with fail
  refine (dup_at b q1 1 0 w2 HF2.out q1_inv).mono ?_
  rw [k_dup.1, k_dup.2]
  rintro e w3 ⟨rfl, hF, hU⟩
  have HF3 : Hid (FdAt w3 b q2) := hF
  have HB3 : Hid (Below w.heap.size w w3) := upd_below HB2.out hU hbb
  clear hF hU HF2 HB2
  go_wp2_with fail
  refine (fork_at b q2 1 2 w3 HF3.out q2_inv).mono ?_
  rintro e w4 ⟨rfl, hF, hU⟩
  have HF4 : Hid (FdAt w4 b q3) := hF
  have HB4 : Hid (Below w.heap.size w w4) := upd_below HB3.out hU hbb
  clear hF hU HF3 HB3
  go_wp2_with fail
  refine (close_at b q3 1 0 w4 HF4.out q3_inv).mono ?_
  rw [k_close.1, k_close.2]
  rintro e w5 ⟨rfl, hF, hU⟩
  unfold Fl.row
  dsimp only
  have HF5 : Hid (FdAt w5 b q4) := hF
  have HB5 : Hid (Below w.heap.size w w5) := upd_below HB4.out hU hbb
  clear hF hU HF4 HB4
  obtain ⟨W5, hW5⟩ : ∃ W, W = w5.alloc (.cells #[.int .i64 2, .int .i64 4, .int .i64 0, .bool false, .int .i64 3] 30) := ⟨_, rfl⟩
  have HX5 : Hid (W5.heap[w5.heap.size]? = some (.cells #[.int .i64 2, .int .i64 4, .int .i64 0, .bool false, .int .i64 3] 30)) := by show W5.heap[w5.heap.size]? = _; rw [hW5]; exact heap_alloc_new _ _
  have HFW5 : Hid (FdAt W5 b q4) := by rw [hW5]; exact HF5.out.below (below_alloc _ _)
  have HBW5 : Hid (Below w.heap.size w W5) := by rw [hW5]; exact HB5.out.alloc HB5.out.size _
  have HW5 : Hid _ := hW5
  obtain ⟨g5, hg5⟩ : ∃ g, g = w5.heap.size := ⟨_, rfl⟩
  rw [← hg5] at HX5
  have HG5 : Hid _ := hg5
  clear HF5 HB5 hW5 hg5
  go_wp2_with fail
  rw [← Hid.out HW5, ← Hid.out HG5]
  clear HW5 HG5
  refine (get_at b q4 2 1 W5 HFW5.out q4_inv).mono ?_
  rw [k_get.1, k_get.2]
  rintro e w6 ⟨rfl, hb6⟩
  unfold Fl.row
  dsimp only
  obtain ⟨W6, hW6⟩ : ∃ W, W = w6.alloc (.cells #[.int .i64 2, .int .i64 4, .int .i64 0, .bool false, .int .i64 3] 30) := ⟨_, rfl⟩
  have HX6 : Hid (W6.heap[w6.heap.size]? = some (.cells #[.int .i64 2, .int .i64 4, .int .i64 0, .bool false, .int .i64 3] 30)) := by show W6.heap[w6.heap.size]? = _; rw [hW6]; exact heap_alloc_new _ _
  have hb56 : Below W5.heap.size W5 W6 := by rw [hW6]; exact hb6.alloc hb6.size _
  have HFW6 : Hid (FdAt W6 b q4) := HFW5.out.below hb56
  have HBW6 : Hid (Below w.heap.size w W6) := HBW5.out.trans (hb56.mono HBW5.out.size)
  have HX5' : Hid (W6.heap[g5]? = some (.cells #[.int .i64 2, .int .i64 4, .int .i64 0, .bool false, .int .i64 3] 30)) := (hb56.block _ (lt_of_heap HX5.out)).trans HX5.out
  have HW6 : Hid _ := hW6
  obtain ⟨g6, hg6⟩ : ∃ g, g = w6.heap.size := ⟨_, rfl⟩
  rw [← hg6] at HX6
  have HG6 : Hid _ := hg6
  clear HFW5 HBW5 HX5 hb6 hb56 hW6 hg6
  go_wp2_with fail
  rw [← Hid.out HW6, ← Hid.out HG6]
  clear HW6 HG6
  refine (get_at b q4 1 0 W6 HFW6.out q4_inv).mono ?_
  rw [k_get2]
  generalize getX q4 1 0 = x7
  rintro e w7 ⟨rfl, hb7⟩
  obtain ⟨xk, xi, xo, xa, xr⟩ := x7
  unfold Fl.row
  dsimp only
  obtain ⟨W7, hW7⟩ : ∃ W, W = w7.alloc (.cells #[.int .i64 xk, .int .i64 xi, .int .i64 xo, .bool xa, .int .i64 xr] 30) := ⟨_, rfl⟩
  have hb67 : Below W6.heap.size W6 W7 := by rw [hW7]; exact hb7.alloc hb7.size _
  have HFW7 : Hid (FdAt W7 b q4) := HFW6.out.below hb67
  have HBW7 : Hid (Below w.heap.size w W7) := HBW6.out.trans (hb67.mono HBW6.out.size)
  have HX57 : Hid (W7.heap[g5]? = some (.cells #[.int .i64 2, .int .i64 4, .int .i64 0, .bool false, .int .i64 3] 30)) := (hb67.block _ (lt_of_heap HX5'.out)).trans HX5'.out
  have HX67 : Hid (W7.heap[g6]? = some (.cells #[.int .i64 2, .int .i64 4, .int .i64 0, .bool false, .int .i64 3] 30)) := (hb67.block _ (lt_of_heap HX6.out)).trans HX6.out
  have HW7 : Hid _ := hW7
  obtain ⟨g7, hg7⟩ : ∃ g, g = w7.heap.size := ⟨_, rfl⟩
  have HG7 : Hid _ := hg7
  clear HFW6 HBW6 HX5' HX6 hb7 hb67 hW7 hg7
  go_wp2_with fail
  rw [← Hid.out HW7, ← Hid.out HG7]
  clear HW7 HG7
  refine (encode_at b q4 W7 HFW7.out q4_inv q4_fit).mono ?_
  rintro e w8 ⟨v8, rfl, hown8, hb8⟩
  obtain ⟨a8, c8, rfl, hc8, hr8⟩ := own_rd hown8
  have hD := decode_at a8 c8 (encW q4) w8 hr8 (enc_u64 q4_inv q4_fit) hc8 (by rw [k_enc]; simp)
  have HF8 : Hid (FdAt w8 b q4) := HFW7.out.below hb8
  have HB8 : Hid (Below w.heap.size w w8) := HBW7.out.trans (hb8.mono HBW7.out.size)
  have HX58 : Hid (w8.heap[g5]? = some (.cells #[.int .i64 2, .int .i64 4, .int .i64 0, .bool false, .int .i64 3] 30)) := (hb8.block _ (lt_of_heap HX57.out)).trans HX57.out
  have HX68 : Hid (w8.heap[g6]? = some (.cells #[.int .i64 2, .int .i64 4, .int .i64 0, .bool false, .int .i64 3] 30)) := (hb8.block _ (lt_of_heap HX67.out)).trans HX67.out
  generalize (encW q4).length = l8 at *
  clear hown8 hr8 hb8 HFW7 HBW7 HX57 HX67 hc8
  go_wp2_with fail
  refine hD.mono ?_
  rintro e w9 ⟨h9, -, hb9⟩
  obtain ⟨b9, rfl, -, -⟩ := h9 k_ok
  have hF9 := HF8.out.below hb9
  have HB9 : Hid (Below w.heap.size w w9) := HB8.out.trans (hb9.mono HB8.out.size)
  have hX5 := (hb9.block _ (lt_of_heap HX58.out)).trans HX58.out
  have hX6 := (hb9.block _ (lt_of_heap HX68.out)).trans HX68.out
  have x54 : w9.cell? ⟨g5, 4, none⟩ = some (.int .i64 3) := by rw [cell_of_heap hX5]; rfl
  have x61 : w9.cell? ⟨g6, 1, none⟩ = some (.int .i64 4) := by rw [cell_of_heap hX6]; rfl
  have x64 : w9.cell? ⟨g6, 4, none⟩ = some (.int .i64 3) := by rw [cell_of_heap hX6]; rfl
  have hnz := ptr_ne b9
  have hL1 := leftA_at b q4 1 w9 hF9
  have hL9 := leftA_at b q4 9 w9 hF9
  rw [k_left.1] at hL1
  rw [k_left.2] at hL9
  clear hD h9 hb9 hF9 hX5 hX6 HF8 HB8 HX58 HX68
  go_wp2_with fail
  refine hL1.mono ?_
  rintro e w10 ⟨rfl, hw⟩
  rw [hw]
  clear hw w10
  go_wp2_with fail
  refine hL9.mono ?_
  rintro e w10 ⟨rfl, hw⟩
  rw [hw]
  clear hw w10
  go_wp2
  go_ret
  exact ⟨rfl, HB9.out⟩
end Go.Proofs.Ytkdbmfckfbmbiaa
