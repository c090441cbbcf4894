/- Proved: januslaw05.CodeOnes answers true for every text (its instructions, one by one, are those that it decodes to), at the commit of this claim; no condition beyond the form's own. -/
import Derived.Test.YtbdmiigicpmhiaaDec5
import Derived.Deep.RegionLaw
import Derived.Deep.DrawnRows
import Derived.ChangeMaps5
import Derived.ChangeOld
import Derived.Below
namespace Go.Proofs.Ytbdmiigicpmhiaa
open Go.ChangeShapes Go.WideShapes Go.ChangeAt Go.RowKit
set_option linter.unusedVariables false

theorem dec_next {s : List UInt8} {l : List Ins} {k j : Nat} (h : decAt s k = some (l.drop j)) (hj : j < l.length) : k < s.length ∧ isIns s k = true ∧ l[j]? = some (insAt s k) ∧ decAt s (k + 1 + wAt s k) = some (l.drop (j + 1)) := by
  rw [List.drop_eq_getElem_cons hj] at h
  by_cases hk : k < s.length
  · cases hi : isIns s k with
    | false => rw [decAt_bad s k hk hi] at h; cases h
    | true =>
      rw [decAt_step s k hk hi] at h
      obtain ⟨l', h1, h2⟩ := Option.map_eq_some_iff.1 h
      injection h2 with h3 h4
      exact ⟨hk, rfl, by rw [List.getElem?_eq_getElem hj, h3], by rw [h1, h4]⟩
  · rw [decAt_end s k hk] at h
    cases h
theorem dec_done {s : List UInt8} {k : Nat} (h : decAt s k = some []) (hk : k ≤ s.length) : k = s.length := by
  by_cases hlt : k < s.length
  · cases hi : isIns s k with
    | false => rw [decAt_bad s k hlt hi] at h; cases h
    | true =>
      rw [decAt_step s k hlt hi] at h
      obtain ⟨l', h1, h2⟩ := Option.map_eq_some_iff.1 h
      cases h2
  · omega

set_option maxRecDepth 100000 in
set_option maxHeartbeats 4000000 in
theorem ones_walk (s : List UInt8) (w : World) (hs : s.length ≤ 9223372036854775807) :
    Calls Try.prog 7 #[tx s] w fun e w' => e = .returned (.bool true) ∧ Below w.heap.size w w' := by
  have hsz : (ByteArray.mk s.toArray).size = s.length := by simp [ByteArray.size]
  by_cases hlong : 2000 < s.length
  · go_enter Try.func7, Try.ntmps7
    go_wp2_with fail
    refine (awake_at w).mono ?_
    rintro e w1 ⟨rfl, hb1⟩
    go_wp2
    go_ret
    exact ⟨rfl, hb1⟩
  have h1 := decode_at s (by omega) w
  have H1 : Hid _ := fun k => one_at s k (by omega)
  cases hd : decAt s 0 with
  | none =>
    go_enter Try.func7, Try.ntmps7
    go_wp2_with fail
    refine h1.mono ?_
    rintro e w1 ⟨hd1, hb1⟩
    unfold Decoded at hd1
    rw [hd] at hd1
    obtain rfl := hd1
    clear h1 hd
    go_wp2_with fail
    refine (awake_at _).mono ?_
    rintro e w2 ⟨rfl, hb2⟩
    go_wp2
    go_ret
    exact ⟨rfl, hb1.trans (hb2.mono hb1.size)⟩
  | some l =>
    have hll := dec_len hd
    have HD0 : Hid _ := hd
    go_enter Try.func7, Try.ntmps7
    go_wp2_with fail
    refine h1.mono ?_
    rintro e w1 ⟨hd1, hb1⟩
    unfold Decoded at hd1
    rw [hd] at hd1
    obtain ⟨a0, c0, rfl, hr1⟩ := hd1
    have HR : Hid _ := hr1
    clear h1 hd hr1
    go_wp2
    go_loopw [5, 6] (fun b c wr => ∃ (k j : Nat), k ≤ s.length ∧ j ≤ l.length ∧ b = .int .i64 k ∧ c = .int .i64 j ∧ Hid (decAt s k = some (l.drop j)) ∧ Below w1.heap.size w1 wr) (fun _ c _ => l.length - (intOf c).toNat)
    case atStart => exact ⟨0, 0, by omega, by omega, rfl, rfl, HD0, Below.refl _ _⟩
    case round =>
      obtain ⟨k, j, hk, hj, rfl, rfl, HD, hb⟩ := hrel
      by_cases hlt : j < l.length
      · obtain ⟨q1, q2, q3, q4⟩ := dec_next HD.out hlt
        have hone := H1.out k (by omega) wr
        rw [one_in s k q1, q2] at hone
        have hbd := (isIns_bound q2).2
        have hw8 : wAt s k ≤ 8 := opw_le _
        have HL : Hid ((insAt s k).len = 1 + wAt s k) := by exact rfl
        have hL9 : 1 ≤ (insAt s k).len ∧ (insAt s k).len ≤ 9 := by have := HL.out; omega
        have HQ : Hid _ := q4
        have HK : Hid _ := q3
        clear q1 q2 q3 q4
        dsimp only [insRow] at hone
        generalize insAt s k = i at *
        have hne := ins_neq i.op i.arg i.pos i.len
        go_wp2_with fail
        refine hone.mono ?_
        rintro e w2 ⟨rfl, hb2⟩
        clear hone
        obtain ⟨W, hW⟩ : ∃ W, W = w2.alloc (.cells #[.int .i64 i.op, .int .u64 i.arg, .int .i64 i.pos, .int .i64 i.len] 36) := ⟨_, rfl⟩
        have hbox : W.heap[w2.heap.size]? = some (.cells #[.int .i64 i.op, .int .u64 i.arg, .int .i64 i.pos, .int .i64 i.len] 36) := by rw [hW]; exact heap_alloc_new _ _
        have hbW : Below w2.heap.size w2 W := by rw [hW]; exact (Below.refl _ _).alloc (Nat.le_refl _) _
        have hbw2 := hb.trans (hb2.mono hb.size)
        have hbwW := hbw2.trans (hbW.mono hbw2.size)
        obtain ⟨gb, off, ea, c0, c1, c2, c3⟩ := (Row.below HR.out hbwW) j i HK.out
        subst ea
        have x0 : W.cell? ⟨w2.heap.size, 0, none⟩ = some (.int .i64 i.op) := by rw [cell_of_heap hbox]; rfl
        have x1 : W.cell? ⟨w2.heap.size, 1, none⟩ = some (.int .u64 i.arg) := by rw [cell_of_heap hbox]; rfl
        have x2 : W.cell? ⟨w2.heap.size, 2, none⟩ = some (.int .i64 i.pos) := by rw [cell_of_heap hbox]; rfl
        have x3 : W.cell? ⟨w2.heap.size, 3, none⟩ = some (.int .i64 i.len) := by rw [cell_of_heap hbox]; rfl
        clear hbox hbW hbw2 hb2
        go_wp2_with fail
        rw [← hW]
        clear hW
        go_region
        all_goals
          go_wp2
          go_roundw
          case rel =>
            refine ⟨k + 1 + wAt s k, j + 1, hbd, by omega, ?_, by go_num, HQ, hbwW.drew⟩
            rw [HL.out]
            congr 1
            omega
          case measure => simp [intOf]; omega
      · obtain rfl : j = l.length := by omega
        have hD := HD.out
        rw [List.drop_length] at hD
        obtain rfl := dec_done hD hk
        have hone := H1.out s.length (by omega) wr
        rw [one_out s s.length (Or.inr (by omega))] at hone
        dsimp only [insRow, noIns] at hone
        clear hD HD
        go_wp2_with fail
        refine hone.mono ?_
        rintro e w2 ⟨rfl, hb2⟩
        have hbw2 := hb.trans (hb2.mono hb.size)
        go_wp2_with fail
        refine (awake_at _).mono ?_
        rintro e w3 ⟨rfl, hb3⟩
        have hba := (hbw2.alloc hbw2.size (.cells #[.int .i64 0, .int .u64 0, .int .i64 0, .int .i64 0] 36))
        have hbx := hba.trans (hb3.mono hba.size)
        go_wp2
        go_ret
        exact ⟨rfl, hb1.trans (hbx.mono hb1.size)⟩
theorem own : ownKnob Try.prog.godebug = none := by kernel_rfl
theorem laidOut : laidOutB Try.prog = true := by kernel_rfl

set_option maxRecDepth 100000 in
theorem ones_lifted (os : Os) (started : os.Started) (H : Type) (enc : TypeId × Value → H) :
    ReturnsInHanded {} Try.checked os 7 .any (Rows.codeOnesSpec.pre6 enc Try.prog Try.f7 Rows.codeOnesRow.domain false) (Rows.codeOnesSpec.post enc Try.prog Try.f7 false true false false) := by
  refine returnsInHanded_of_change (C := Try.checked) own started (by kernel_rfl) Try.func7
    (ChangeSpec.witness6 (enc := enc) (C := Try.checked) false ⟨#[], #[.string ⟨#[]⟩], []⟩ 8 (by kernel_rfl) (by kernel_rfl) (by kernel_rfl) (by kernel_rfl)) ?_
  intro W base args ds gs before hval0 hW hcnd _
  have hval : ∀ (j : Nat) t v, Try.f7.params[j]? = some t → args[j]? = some v → Value.okWide Try.prog W .any base t v := hval0
  have hW' := hW
  obtain ⟨p, q, hA0, hV, rfl, hfz, hnd⟩ := hW
  have hA : DataW.TrodAll enc Try.prog W 0 (fun _ => true) true Try.f7.params.toList args.toList ds p := hA0
  rw [Try.params7] at hA hval
  obtain ⟨v0, vs0, d0, ds0, p0, q0, hargs, rfl, rfl, h0, r0⟩ := trodAll_cons hA
  obtain ⟨rfl, rfl, rfl⟩ := trodAll_nil r0
  obtain rfl : args = #[v0] := by cases args; simp_all
  obtain ⟨rfl, rfl⟩ := trodVars_none hV
  obtain ⟨s0, rfl, rfl, rfl, len0⟩ := Go.ChangeMaps.open_string Try.underlying9 (hval 0 9 v0 rfl rfl) h0
  clear hA0 hval0
  obtain ⟨s, rfl, hsl⟩ := text_of s0
  have hwalk : Calls Try.prog 7 #[tx s] W fun e w' => e = .returned (.bool true) ∧ Below W.heap.size W w' := ones_walk s W (by unfold maxLen at len0; omega)
  refine hwalk.mono fun e W' ⟨he, bel⟩ => ?_
  subst he
  exact ⟨_, rfl, _, _, _, [], _, [], hW', trodAll_mk1 (shut_bool Try.underlying4 _), (trodAll_cons_mk (Go.ChangeMaps.shut_string Try.underlying9 len0) trodAll_mk0), rfl, bel.frame _, fun h => by cases h⟩

theorem ones_holds : Rows.CodeOnesSaid :=
  OpenClaim.holds_of_wide 7 Try.f7 rfl rfl rfl rfl rfl rfl rfl ⟨rfl, rfl, rfl, rfl, rfl⟩ rfl rfl rfl rfl rfl (by kernel_rfl) Try.func7 (by kernel_rfl)
    (of_decide_eq_true (by kernel_rfl)) (by unfold Func.isWrapper; first | (rw [if_pos (by decide +kernel)]; kernel_rfl) | (rw [if_neg (by decide +kernel)]; exact ⟨rfl, rfl⟩))
    (fun os started H enc _ => ones_lifted os started H enc)
#print axioms ones_holds
end Go.Proofs.Ytbdmiigicpmhiaa
