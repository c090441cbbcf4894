/- The reference machine is made: what the exokernel's statements need of it where nothing more is asked of it. -/
import Derived.Test.YtbhpafgoofkkmaaGreatDoorRefMem
import Derived.Test.YtbhpafgoofkkmaaGreatDoorRefDisk
import Derived.Test.YtbhpafgoofkkmaaGreatDoorRfA
import Derived.Test.YtbhpafgoofkkmaaGreatDoorXoB
namespace Go.Proofs.YtbhpafgoofkkmaaGreatDoor
open Go.RowKit
set_option linter.unusedVariables false

theorem big_row (a b : Nat) : ∃ r, (Tryz.zeroCells57.setIfInBounds 0 (ptr a)).setIfInBounds 1 (ptr b) = r := ⟨_, rfl⟩
set_option maxRecDepth 100000 in
set_option maxHeartbeats 4000000 in
theorem rk_new (n : Int) (w : World) (h1 : 1 ≤ n) (h2 : n ≤ 1024) :
    Calls Tryz.prog 56 #[.int .i64 n] w fun x w' => ∃ X, x = .returned (ptr X) ∧ Below w.heap.size w w' := by
  have hm := Me.rnew_at n w h1 h2
  clear h1 h2
  go_enter Tryz.func56, Tryz.ntmps56
  go_wp2_with fail
  refine hm.mono ?_
  rintro x w1 ⟨rfl, _, hb1⟩
  obtain ⟨kk, hkk⟩ := big_row w.heap.size w1.heap.size
  have hbld : Hid _ := hkk
  have HB : Hid _ := hb1
  clear hm hb1 hkk
  go_wp2
  go_ret
  rw [hbld.out]
  exact ⟨_, rfl, HB.out.trans ((Ca.below_alloc2 w1 (.cells #[.slice none 0 0, .int .i64 0] 104) (.cells kk 57)).mono HB.out.size)⟩
theorem row_info : (Tryz.prog.info? 27).map (fun i => (i.zero, i.size, i.bytes)) = some (some (.slice none 0 0), 1, 24) := by kernel_rfl
def nilRow (n : Nat) : Array Value := Array.replicate (n * 1) (.slice none 0 0)
theorem make_nils (n : Nat) (h : n ≤ 1024) (w : World) : (Instr.makeSlice 41 (.int .i64 (n : Int)) (.int .i64 (n : Int))).run Tryz.prog w = .ok (.slice (some ⟨w.heap.size, 0, none⟩) n n) (w.alloc (.cells (nilRow n) 27)) :=
  run_make_flat 41 27 (.slice none 0 0) (.slice none 0 0) 1 24 Tryz.underlying41 row_info rfl (by omega) .i64 .i64 n (by omega) (by omega) w
set_option maxRecDepth 100000 in
set_option maxHeartbeats 2000000 in
theorem rx_new (n : Int) (w : World) (h1 : 1 ≤ n) (h2 : n ≤ 1024) :
    Calls Tryz.prog 57 #[.int .i64 n] w fun x w' => ∃ X, x = .returned (ptr X) ∧ Below w.heap.size w w' := by
  obtain ⟨n, rfl⟩ := nat_of n (by omega)
  have hnew := Di.rnew_ref n w h1 h2
  have hmk := fun w => make_nils n (by omega) w
  obtain ⟨R, hR⟩ : ∃ R, R = nilRow n := ⟨_, rfl⟩
  rw [← hR] at hmk
  clear hR h1 h2
  go_enter Tryz.func57, Tryz.ntmps57
  go_wp2_with fail
  refine hnew.mono ?_
  rintro x w1 ⟨rfl, _, hb1⟩
  have HB1 : Hid _ := hb1
  clear hb1 hnew
  obtain ⟨A1, hA1⟩ : ∃ A, A = w1.alloc (.cells #[.slice none 0 0, .int .i64 0] 104) := ⟨_, rfl⟩
  obtain ⟨A2, hA2⟩ : ∃ A, A = A1.alloc (.cells R 27) := ⟨_, rfl⟩
  obtain ⟨A3, hA3⟩ : ∃ A, A = A2.alloc (.cells #[ptr w.heap.size, ptr w1.heap.size, .slice none 0 0, .slice none 0 0, .slice (some ⟨w1.heap.size + 1, 0, none⟩) n n] 70) := ⟨_, rfl⟩
  have b1 : Below w1.heap.size w1 A1 := by rw [hA1]; exact Ca.below_alloc _ _
  have b2 : Below A1.heap.size A1 A2 := by rw [hA2]; exact Ca.below_alloc _ _
  have b3 : Below A2.heap.size A2 A3 := by rw [hA3]; exact Ca.below_alloc _ _
  have HB3 : Hid (Below w1.heap.size w1 A3) := (b1.trans (b2.mono b1.size)).trans (b3.mono (Nat.le_trans b1.size b2.size))
  clear b1 b2 b3
  go_wp2
  rw [← hA1, ← hA2, ← hA3]
  clear hA1 hA2 hA3
  go_ret
  exact ⟨_, rfl, HB1.out.trans (HB3.out.mono HB1.out.size)⟩

theorem rk_ne (b : Nat) (W : World) : (binOp .eql 58 (ptr b) (.pointer none)).run Tryz.prog W = .ok (.bool false) W := by kernel_rfl
theorem rx_ne (b : Nat) (W : World) : (binOp .eql 59 (ptr b) (.pointer none)).run Tryz.prog W = .ok (.bool false) W := by kernel_rfl
/-- The reference machine's environments, where its head lies. -/
structure RxAt (w : World) (X B c gv : Nat) (L V : List Int) : Prop where
  head : ∃ a b p, w.heap[X]? = some (.cells #[ptr a, ptr b, ptr c, p] 65)
  env : En.RfAt w B c gv L V []
  low : X ≠ c ∧ X ≠ gv
set_option maxRecDepth 100000 in
set_option maxHeartbeats 2000000 in
theorem r13_new (n d : Int) (w : World) (h1 : 1 ≤ n) (h2 : n ≤ 1024) (h3 : 1 ≤ d) (h4 : d ≤ 1024) :
    Calls Tryz.prog 22 #[.int .i64 n, .int .i64 d] w fun x w' => ∃ X c gv, x = .returned (ptr X) ∧ RxAt w' X c c gv [] (List.replicate 16 (-1)) ∧ Below w.heap.size w w' ∧ w.heap.size ≤ c ∧ w.heap.size ≤ gv ∧ c ≤ X := by
  have hA := rk_new n w h1 h2
  have HD : Hid (1 ≤ d ∧ d ≤ 1024) := ⟨h3, h4⟩
  clear h1 h2 h3 h4
  go_enter Tryz.func22, Tryz.ntmps22
  go_wp2_with fail
  refine hA.mono ?_
  rintro x w1 ⟨a, rfl, hb1⟩
  have HB1 : Hid _ := hb1
  have hB := rx_new d w1 HD.out.1 HD.out.2
  clear hA hb1
  go_wp2_with fail
  refine hB.mono ?_
  rintro x w2 ⟨b, rfl, hb2⟩
  have HB2 : Hid _ := hb2
  have q1 := rk_ne a
  have q2 := rx_ne b
  have hE := En.rnew_yes 16 w2 (by omega) (by omega)
  clear hB hb2
  go_wp2_with fail
  refine hE.mono ?_
  rintro x w3 ⟨rfl, ⟨gv, hR⟩, hb3⟩
  obtain ⟨W, hW⟩ : ∃ W, W = w3.alloc (.cells #[ptr a, ptr b, ptr w2.heap.size, .slice none 0 0] 65) := ⟨_, rfl⟩
  have hbW : Below w3.heap.size w3 W := by rw [hW]; exact Ca.below_alloc _ _
  have hX : W.heap[w3.heap.size]? = some (.cells #[ptr a, ptr b, ptr w2.heap.size, .slice none 0 0] 65) := by rw [hW]; exact heap_alloc_new _ _
  have HX : Hid (RxAt W w3.heap.size w2.heap.size w2.heap.size gv [] (List.replicate 16 (-1))) := by
    obtain ⟨al, cl, cv, au, cu, hr⟩ := hR
    have s1 := hr.ltc
    have s2 := hr.ltg
    exact ⟨⟨a, b, _, hX⟩, ⟨al, cl, cv, au, cu, hr.below hbW⟩, by omega, by omega⟩
  have HG : Hid (w2.heap.size ≤ gv) := by
    obtain ⟨al, cl, cv, au, cu, hr⟩ := hR
    exact hr.bg
  have HB3 : Hid (Below w2.heap.size w2 W) := hb3.trans (hbW.mono hb3.size)
  have HB4s : Hid (w2.heap.size ≤ w3.heap.size) := hb3.size
  clear hE hR hb3 hbW hX
  go_wp2
  rw [← hW]
  clear hW
  go_ret
  have s1 := HB1.out.size
  have s2 := HB2.out.size
  have s3 := HG.out
  exact ⟨_, _, _, rfl, HX.out, (HB1.out.trans (HB2.out.mono s1)).trans (HB3.out.mono (by omega)), by omega, by omega, HB4s.out⟩
end Go.Proofs.YtbhpafgoofkkmaaGreatDoor
