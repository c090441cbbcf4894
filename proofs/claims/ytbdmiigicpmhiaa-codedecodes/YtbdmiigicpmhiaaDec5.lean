/- What Decode answers, in one form for both ways, and the walk of januslaw05.CodeDecodes. -/
import Derived.Test.YtbdmiigicpmhiaaIns5
import Derived.Test.YtbdmiigicpmhiaaAwake5
namespace Go.Proofs.Ytbdmiigicpmhiaa
open Go.RowKit
set_option linter.unusedVariables false

theorem text_of (s : ByteArray) : ∃ l : List UInt8, s = ⟨l.toArray⟩ ∧ s.size = l.length := ⟨s.data.toList, by simp, by show s.data.size = s.data.toList.length; simp⟩
theorem encs_ge : ∀ (l : List Ins), l.length ≤ (encs l).length
  | [] => by simp
  | i :: l => by
    have h := encs_ge l
    have e : encs (i :: l) = enc1 i ++ encs l := rfl
    rw [e, List.length_append, enc1_len, List.length_cons]
    omega
theorem dec_len {s : List UInt8} {l : List Ins} (h : decAt s 0 = some l) : l.length ≤ s.length := by
  have h1 := (enc_dec s _ 0 (Nat.le_refl _) (by omega) l h).2
  have h2 := encs_ge l
  rw [h1] at h2
  simpa using h2
/-- The list that Decode hands out, and its error. -/
def decL (s : List UInt8) : List Ins := (decAt s 0).getD []
def decE (s : List UInt8) : Int := if (decAt s 0).isSome then 0 else 8
theorem decL_len (s : List UInt8) : (decL s).length ≤ s.length := by
  unfold decL
  cases h : decAt s 0 with
  | none => simp
  | some l => simpa using dec_len h
theorem Decoded.both {s : List UInt8} {w0 w' : World} {e : Ending} (h : Decoded s w0 e w') : ∃ a0 cap, e = .returned (.tuple #[.slice a0 (decL s).length cap, .int .i64 (decE s)]) ∧ Row w' a0 (decL s) := by
  unfold Decoded at h
  unfold decL decE
  cases hd : decAt s 0 with
  | none =>
    rw [hd] at h
    exact ⟨.none, 0, h, fun j i hj => by simp at hj⟩
  | some l =>
    rw [hd] at h
    exact h

set_option maxRecDepth 100000 in
set_option maxHeartbeats 2000000 in
theorem decodes_walk (s : List UInt8) (a : Int) (w : World) (hs : s.length ≤ 9223372036854775807) (ha : -9223372036854775808 ≤ a ∧ a ≤ 9223372036854775807) :
    Calls Try.prog 4 #[tx s, .int .i64 a] w fun e w' => e = .returned (.bool true) ∧ Below w.heap.size w w' := by
  have hsz : (ByteArray.mk s.toArray).size = s.length := by simp [ByteArray.size]
  by_cases hlong : 2000 < s.length
  · go_enter Try.func4, Try.ntmps4
    go_wp2_with fail
    refine (awake_at w).mono ?_
    rintro e w1 ⟨rfl, hb1⟩
    go_wp2
    go_ret
    exact ⟨rfl, hb1⟩
  have h1 := decode_at s (by omega) w
  have h2 := rdecode_at s (by omega)
  have h3 := one_at s a (by omega) ha
  have h4 := rone_at s a (by omega) ha
  have hll := decL_len s
  dsimp only [insRow] at h3 h4
  generalize one s a = R at *
  obtain ⟨i, E⟩ := R
  dsimp only at h3 h4
  have heq := ins_eq i.op i.arg i.pos i.len
  go_enter Try.func4, Try.ntmps4
  go_wp2_with fail
  refine h1.mono ?_
  rintro e w1 ⟨hd1, hb1⟩
  obtain ⟨a1, c1, rfl, hr1⟩ := Decoded.both hd1
  clear h1 hd1
  have HR1 : Hid _ := hr1
  clear hr1
  go_wp2_with fail
  refine (h2 w1).mono ?_
  rintro e w2 ⟨hd2, hb2⟩
  obtain ⟨a2, c2, rfl, hr2⟩ := Decoded.both hd2
  clear h2 hd2
  have HR2 : Hid _ := And.intro (Row.below HR1.out hb2) hr2
  have hbw2 := hb1.trans (hb2.mono hb1.size)
  clear hr2 HR1 hb1 hb2
  generalize decL s = L at *
  generalize decE s = F at *
  go_wp2_with fail
  refine (h3 w2).mono ?_
  rintro e w3 ⟨rfl, hb3⟩
  clear h3
  go_wp2_with fail
  obtain ⟨W4, hW4⟩ : ∃ W4, W4 = w3.alloc (.cells #[.int .i64 i.op, .int .u64 i.arg, .int .i64 i.pos, .int .i64 i.len] 36) := ⟨_, rfl⟩
  rw [← hW4]
  have hb4 : Below w3.heap.size w3 W4 := by rw [hW4]; exact (Below.refl _ _).alloc (Nat.le_refl _) _
  have HX4 : Hid (W4.heap[w3.heap.size]? = some (.cells #[.int .i64 i.op, .int .u64 i.arg, .int .i64 i.pos, .int .i64 i.len] 36)) := by rw [hW4]; exact heap_alloc_new _ _
  clear hW4
  have hb24 := hb3.trans (hb4.mono hb3.size)
  have HR4 : Hid _ := And.intro (Row.below HR2.out.1 hb24) (Row.below HR2.out.2 hb24)
  have hbw4 := hbw2.trans (hb24.mono hbw2.size)
  clear HR2 hbw2 hb24 hb3 hb4
  refine (h4 W4).mono ?_
  rintro e w5 ⟨rfl, hb5⟩
  have HX5 : Hid _ := (hb5.block _ (lt_of_heap HX4.out)).trans HX4.out
  have hlt5 := lt_of_heap HX5.out
  have HR5 : Hid _ := And.intro (Row.below HR4.out.1 hb5) (Row.below HR4.out.2 hb5)
  have hbw5 := hbw4.trans (hb5.mono hbw4.size)
  clear h4 HX4 HR4 hbw4 hb5
  go_wp2_with fail
  obtain ⟨W6, hW6⟩ : ∃ W6, W6 = w5.alloc (.cells #[.int .i64 i.op, .int .u64 i.arg, .int .i64 i.pos, .int .i64 i.len] 36) := ⟨_, rfl⟩
  rw [← hW6]
  have hb6 : Below w5.heap.size w5 W6 := by rw [hW6]; exact (Below.refl _ _).alloc (Nat.le_refl _) _
  have HX6 : Hid (W6.heap[w5.heap.size]? = some (.cells #[.int .i64 i.op, .int .u64 i.arg, .int .i64 i.pos, .int .i64 i.len] 36)) := by rw [hW6]; exact heap_alloc_new _ _
  clear hW6
  have HY6 : Hid _ := (hb6.block _ hlt5).trans HX5.out
  have HR6 : Hid _ := And.intro (Row.below HR5.out.1 hb6) (Row.below HR5.out.2 hb6)
  have hbw6 := hbw5.trans (hb6.mono hbw5.size)
  clear HX5 HR5 hbw5 hb6
  refine (list_same L a1 a2 c1 c2 W6 HR6.out.1 HR6.out.2 (by omega)).mono ?_
  rintro e w7 ⟨rfl, hb7⟩
  have hX7 := (hb7.block _ (lt_of_heap HX6.out)).trans HX6.out
  have hY7 := (hb7.block _ (lt_of_heap HY6.out)).trans HY6.out
  have hbw7 := hbw6.trans (hb7.mono hbw6.size)
  clear HX6 HY6 HR6 hbw6 hb7 hlt5
  generalize w5.heap.size = m5 at *
  generalize w3.heap.size = m3 at *
  have x0 : w7.cell? ⟨m5, 0, none⟩ = some (.int .i64 i.op) := by rw [cell_of_heap hX7]; rfl
  have x1 : w7.cell? ⟨m5, 1, none⟩ = some (.int .u64 i.arg) := by rw [cell_of_heap hX7]; rfl
  have x2 : w7.cell? ⟨m5, 2, none⟩ = some (.int .i64 i.pos) := by rw [cell_of_heap hX7]; rfl
  have x3 : w7.cell? ⟨m5, 3, none⟩ = some (.int .i64 i.len) := by rw [cell_of_heap hX7]; rfl
  have y0 : w7.cell? ⟨m3, 0, none⟩ = some (.int .i64 i.op) := by rw [cell_of_heap hY7]; rfl
  have y1 : w7.cell? ⟨m3, 1, none⟩ = some (.int .u64 i.arg) := by rw [cell_of_heap hY7]; rfl
  have y2 : w7.cell? ⟨m3, 2, none⟩ = some (.int .i64 i.pos) := by rw [cell_of_heap hY7]; rfl
  have y3 : w7.cell? ⟨m3, 3, none⟩ = some (.int .i64 i.len) := by rw [cell_of_heap hY7]; rfl
  clear hX7 hY7
  go_wp2_with fail
  refine (awake_at _).mono ?_
  rintro e w8 ⟨rfl, hb8⟩
  go_wp2
  go_ret
  exact ⟨rfl, hbw7.trans (hb8.mono hbw7.size)⟩
end Go.Proofs.Ytbdmiigicpmhiaa
