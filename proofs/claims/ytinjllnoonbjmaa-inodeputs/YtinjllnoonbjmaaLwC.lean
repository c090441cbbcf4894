/- Package inode: what inodes are put: rows that are the same, rows that are read under a guard. -/
import Derived.Test.YtinjllnoonbjmaaLwG
import Derived.Test.YtinjllnoonbjmaaKinds
import Derived.ProofKit
import Derived.OpenShut
import Derived.ChangeOld
import Derived.ChangeSlices
import Derived.Below
import Derived.ChangeKeysEq
namespace Go.Proofs.Ytinjllnoonbjmaa
open Go.ChangeShapes Go.WideShapes Go.ChangeAt Go.RowKit Go.Lib
set_option linter.unusedVariables false

abbrev inoCK : List CK := [.i .i64, .i .i64, .i .i64, .i .i64, .i .i64, .i .i64, .i .i64, .i .i64, .i .i64]
theorem inoKinds : kindsOf Try.prog 9 47 = some inoCK := by kernel_rfl
def I64s (xs : List Int) : Prop := ∀ x ∈ xs, I64 x
theorem inoOf {l : List Value} (h : Fits inoCK l) : ∃ xs : List Int, xs.length = 9 ∧ I64s xs ∧ l = (irow xs).toList := by
  obtain ⟨_, _, rfl, ⟨a, rfl, ha⟩, _, _, rfl, ⟨b, rfl, hb⟩, _, _, rfl, ⟨c, rfl, hc⟩, _, _, rfl, ⟨d, rfl, hd⟩, _, _, rfl, ⟨e, rfl, he⟩, _, _, rfl, ⟨f, rfl, hf⟩, _, _, rfl, ⟨g, rfl, hg⟩, _, _, rfl, ⟨i, rfl, hi⟩, _, _, rfl, ⟨j, rfl, hj⟩, rfl⟩ := h
  refine ⟨[a, b, c, d, e, f, g, i, j], rfl, fun x hx => ?_, rfl⟩
  simp only [List.mem_cons, List.not_mem_nil, or_false] at hx
  rcases hx with rfl | rfl | rfl | rfl | rfl | rfl | rfl | rfl | rfl
  · exact bounds_i64 ha
  · exact bounds_i64 hb
  · exact bounds_i64 hc
  · exact bounds_i64 hd
  · exact bounds_i64 he
  · exact bounds_i64 hf
  · exact bounds_i64 hg
  · exact bounds_i64 hi
  · exact bounds_i64 hj
/-- The words of a row behind a put. -/
theorem rowW_put {ws xs : List Int} {n i k : Nat} (hl : ws.length = n * 32) (hi : i < 32) (hk : k < 32) (hn : 13 ≤ n) (hx : xs.length = 9) : rowW (putW ws i xs) k = if k = i then xs else rowW ws k := by
  have hfl := frameOf_length ws (1 + i / 3) n hl (by omega)
  have hsl : (splice (frameOf ws (1 + i / 3)) (i % 3 * 9) xs).length = 32 := by rw [splice_length _ _ _ (by omega), hfl]
  have hpl : (putW ws i xs).length = n * 32 := by unfold putW; rw [splice_length _ _ _ (by rw [hsl, hl]; omega), hl]
  refine list_ext_getD _ _ ?_ fun j hj => ?_
  · rw [rowW_len hpl (by omega)]
    split
    · exact hx.symm
    · rw [rowW_len hl (by omega)]
  · rw [rowW_len hpl (by omega)] at hj
    rw [rowW_get _ _ _ hj]
    unfold putW
    rw [frame_splice ws _ n _ _ hl (by omega) (by omega) hsl]
    by_cases e : 1 + k / 3 = 1 + i / 3
    · rw [if_pos e, splice_getD _ _ _ (by omega), hx]
      by_cases e2 : k = i
      · subst e2
        rw [if_pos rfl, if_pos (by omega), Nat.add_sub_cancel_left]
      · rw [if_neg e2, if_neg (by omega), rowW_get _ _ _ hj, ← e]
    · rw [if_neg e, if_neg (fun q => e (by rw [q])), rowW_get _ _ _ hj]
theorem Dk.keep {w w' : World} {B G n m : Nat} {vs : List Int} {P : Nat → Prop} (h : Dk w B G n vs m) (hu : UpdP P w w') (h1 : ¬ P B) (h2 : ¬ P G) : Dk w' B G n vs m := by
  obtain ⟨gt, pt, hd, q1, q2⟩ := h
  exact ⟨gt, pt, hd.keep (hu.block _ (lt_of_heap hd.head) h1) (hu.block _ (lt_of_heap hd.row) h2), q1, q2⟩
/-- What Get answers of a disk's words. -/
def gwX (vs : List Int) (k : Int) : List Int := if isI k = true then rowW vs k.toNat else List.replicate 9 0
theorem getw {w : World} {B G n m : Nat} {vs : List Int} (h : Dk w B G n vs m) (hm : m ≤ 900000) (hn : 13 ≤ n) (hn2 : n ≤ 1024) (k : Int) (hf : ∀ i, i < 32 → ∀ x ∈ rowW vs i, Fit x) :
    Calls Try.prog 21 #[sto B, .int .i64 k] w fun e w' => e = .returned (.tuple #[.agg (irow (gwX vs k)), .int .i64 (gtR k)]) ∧ Dk w' B G n vs (m + 2000) ∧ BG B G w w' := by
  unfold gwX gtR
  cases hi : isI k with
  | true =>
    obtain ⟨i, rfl, hi2⟩ := isI_of hi
    exact get_in h hm hn hn2 i hi2 (hf i hi2)
  | false =>
    refine (get_out B k hi w).mono ?_
    rintro e w' ⟨he, hb⟩
    exact ⟨he, (h.below hb).mono (by omega), UpdP.of_below hb⟩
theorem gwX_len {vs : List Int} {n : Nat} (hl : vs.length = n * 32) (hn : 13 ≤ n) (k : Int) : (gwX vs k).length = 9 := by
  unfold gwX
  cases hi : isI k with
  | true =>
    obtain ⟨i, rfl, hi2⟩ := isI_of hi
    exact rowW_len hl (by simp; omega)
  | false => rfl
theorem list9 {l : List Int} (h : l.length = 9) : ∃ a b c d e f g i j, l = [a, b, c, d, e, f, g, i, j] := by
  match l, h with
  | [a, b, c, d, e, f, g, i, j], _ => exact ⟨a, b, c, d, e, f, g, i, j, rfl⟩
theorem intCells : Try.prog.cellsOf 3 = 1 := by kernel_rfl
theorem arrUnder : Try.prog.underlying 45 = some (.array 6 3) := by kernel_rfl
theorem arr_eq (W : World) (a b c d e f : Int) : (Op.equalIn 9999 45 (.agg #[.int .i64 a, .int .i64 b, .int .i64 c, .int .i64 d, .int .i64 e, .int .i64 f]) (.agg #[.int .i64 a, .int .i64 b, .int .i64 c, .int .i64 d, .int .i64 e, .int .i64 f])).run Try.prog W = .ok true W := by
  have h1 : (Try.prog.info? 3).isSome = true := by kernel_rfl
  obtain ⟨i, hi⟩ := Option.isSome_iff_exists.mp h1
  rw [run_equalIn_array W 9998 _ _ arrUnder hi, intCells]
  have hr : List.range 6 = [0, 1, 2, 3, 4, 5] := rfl
  rw [hr]
  simp only [Op.eqItems]
  go_simp
theorem wpList_load_rowW {P : Program} {ops : Array Oper} {rest : List Oper} {o : Oper} {a : Act} {w : World} {Q : Exit → Act → World → Prop} (hwn : Region.wanted o (yielded ops a.tmps) = true) (ty : TypeId) (x : Operand) (ho : o.op = .load ty x)
    (g : Nat) (hx : a.eval x = .pointer (some ⟨g, 0, none⟩)) (t : TypeId) (cs : Array Value) (fr : Nat × Nat) (d : TypeDesc) (hg : w.heap[g]? = some (.cells cs t fr))
    (hu : P.underlying ty = some d) (hd : (match d with | .struct _ | .array _ _ => true | _ => false) = true) (hi : (P.info? ty).map (·.size) = some cs.size)
    (h : wpList P ops Q rest (a.put o.dst (.agg cs)) w) : wpList P ops Q (o :: rest) a w :=
  wpList_step fun K hK => by rw [if_pos hwn]; exact wp_load_row ty x ho g hx t cs fr d hg hu hd hi (hK _ _ h)
/-- Two inodes are the same. -/
theorem ino_eq (xs : List Int) (h : xs.length = 9) (W : World) : (binOp BinOp.eql 47 (.agg (irow xs)) (.agg (irow xs))).run Try.prog W = .ok (.bool true) W := by
  obtain ⟨a, b, c, d, e, f, g, i, j, rfl⟩ := list9 h
  have e1 : irow [a, b, c, d, e, f, g, i, j] = #[.int .i64 a, .int .i64 b, .int .i64 c, .int .i64 d, .int .i64 e, .int .i64 f, .int .i64 g, .int .i64 i, .int .i64 j] := rfl
  have h2 := arr_eq W d e f g i j
  rw [e1]
  go_simp
end Go.Proofs.Ytinjllnoonbjmaa
