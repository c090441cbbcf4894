/- The reference of package pipes: Decode. -/
import Derived.Test.YtpnmaoinnmmfdaaRpB
namespace Go.Proofs.Ytpnmaoinnmmfdaa
open Go.RowKit Go.Lib
set_option linter.unusedVariables false

/-- The cells of the reference's pipes of which there is none. -/
def rrow : Array Value := (List.replicate 16 (Value.bool false) ++ List.replicate 16 (tx [])).toArray
theorem rrow_R : RpR rrow PS.none := by
  refine ⟨by simp [rrow], fun i hi => ?_, fun i hi => ?_⟩
  · unfold rrow
    rw [List.getElem?_toArray, List.getElem?_append_left (by simpa using hi), List.getElem?_replicate, if_pos hi]
    rfl
  · unfold rrow
    rw [List.getElem?_toArray, List.getElem?_append_right (by simp), List.length_replicate, List.getElem?_replicate, if_pos (by omega)]
    rfl
theorem rrow_zero : (Try.prog.info? 29).map (·.zero) = some (some (.agg rrow)) := by kernel_rfl
theorem zero_ref (W : World) : (zeroValue 29).run Try.prog W = .ok (.agg rrow) W := by
  obtain ⟨i, hi, hz⟩ := Option.map_eq_some_iff.1 rrow_zero
  simp [zeroValue, typeInfo, hi, hz]
/-- Bytes as cells. -/
def bvs (l : List UInt8) : List Value := (nums l).map (Value.int .u8)
theorem bvs_app (l m : List UInt8) : bvs (l ++ m) = bvs l ++ bvs m := by simp [bvs, nums]
theorem bvs_one (l : List UInt8) : ∀ u ∈ bvs l, u.oneCell' = true := by
  intro u hu
  simp only [bvs, List.mem_map] at hu
  obtain ⟨x, _, rfl⟩ := hu
  rfl
/-- What an append of bytes may touch. -/
structure UY (B : Nat) (w w' : World) : Prop where
  bel : Below B w w'
  oth : ∀ (k : Nat) (cs : Array Value) (t : TypeId) (fz : Nat × Nat), w.heap[k]? = some (.cells cs t fz) → t ≠ 5 → w'.heap[k]? = w.heap[k]?
theorem UY.refl (B : Nat) (w : World) : UY B w w := ⟨Below.refl _ _, fun _ _ _ _ _ _ => rfl⟩
theorem UY.trans {B : Nat} {a b c : World} (h : UY B a b) (k : UY B b c) : UY B a c :=
  ⟨h.bel.trans k.bel, fun i cs t fz hi ht => by
    have h1 := h.oth i cs t fz hi ht
    exact (k.oth i cs t fz (h1.trans hi) ht).trans h1⟩
theorem UY.rb {B : Nat} {w w' : World} (h : UY B w w') {b : Nat} {row : Array Value} (hb : RB w b row) : RB w' b row := hb.keep (h.oth b _ _ _ hb (by decide))
/-- append(v, x) of bytes. -/
theorem appB {w : World} {B n c : Nat} {a : Option Addr} {l : List UInt8} (ho : w.ownsRow B 5 1 (.slice a n c) l.length (bvs l)) (hn : l.length = n) (hB : B ≤ w.heap.size) (hl : n ≤ 2000) (y : UInt8) (x0 : Int) (hx : x0 = (y.toNat : Int)) :
    ∃ a' c' w', (∀ ty, (Builtin.append_ #[69, 69] ty #[.slice a n c, .slice (some ⟨w.heap.size, 0, none⟩) 1 1]).run Try.prog (w.alloc (.cells #[.int .u8 x0] 5)) = .ok (.slice a' (n + 1) c') w') ∧ w'.ownsRow B 5 1 (.slice a' (n + 1) c') (l ++ [y]).length (bvs (l ++ [y])) ∧ UY B w w' := by
  obtain ⟨i0, hi0, hzz⟩ := Option.map_eq_some_iff.1 byteInfo
  simp only [Prod.mk.injEq] at hzz
  obtain ⟨hz0, hz1, hz2⟩ := hzz
  subst hx
  have hbe : Below w.heap.size w (w.alloc (.cells #[.int .u8 (y.toNat : Int)] 5)) := below_alloc _ _
  have hnew : (w.alloc (.cells #[.int .u8 (y.toNat : Int)] 5)).heap[w.heap.size]? = some (.cells #[.int .u8 (y.toNat : Int)] 5) := heap_alloc_new _ _
  have ho1 := ownsRow_below ho hbe
  obtain ⟨g', cap', w', hr', hown, hgrow, _, _⟩ := run_append_lies (P := Try.prog) _ 69 0 B 5 i0 _ 1 1 Try.underlying69 hi0 hz0 hz1 hz2 rfl (by omega) _ l.length (bvs l) ho1
    ⟨w.heap.size, 0, none⟩ 1 1 (bvs [y]) rfl (fun j x hx => by
      rw [add0, Nat.zero_add, cell_of_heap hnew, ← hx]
      simp [bvs, nums]) (bvs_one _) (by omega) (by unfold maxLen; omega) (by omega) (Nat.le_trans hB hbe.size) _ rfl
  rw [hn] at hr' hown
  refine ⟨some ⟨g', 0, none⟩, cap', w', fun ty => hr', ?_, ⟨(hbe.mono hB).trans (below_grown hgrow (Nat.le_trans hB hbe.size) (ownsRow_low ho1)), fun i cs t fz hi ht => ?_⟩⟩
  · rw [List.length_append, bvs_app, hn]
    exact hown
  · have h1 := hbe.block i (lt_of_heap hi)
    refine (hgrow.block i (lt_of_heap (h1.trans hi)) (fun e => ?_)).trans h1
    obtain ⟨c2, k2⟩ := own_type ho1 e.symm
    rw [h1, hi] at k2
    simp only [Option.some.injEq, Obj.cells.injEq] at k2
    exact ht k2.2.1
theorem own_string {w : World} {B n c : Nat} {a : Option Addr} {l : List UInt8} (ho : w.ownsRow B 5 1 (.slice a n c) l.length (bvs l)) (hn : n = l.length) (W : World) (hW : W.heap = w.heap) : (convert 69 9 (.slice a n c)).run Try.prog W = .ok (tx l) W := by
  subst hn
  rcases ho.2 with ⟨e, e2⟩ | ⟨g, cap, cur, e, _, hh, _, _, _, ht⟩
  · have : l = [] := List.eq_nil_of_length_eq_zero e2
    subst this
    simp only [Value.slice.injEq] at e
    obtain ⟨rfl, -, rfl⟩ := e
    exact run_convert_bytes_string W _ _ 5 none 0 0 Try.underlying69 Try.underlying5 Try.underlying9
  · simp only [Value.slice.injEq] at e
    obtain ⟨rfl, -, rfl⟩ := e
    refine run_convert_bytes_back W _ _ 5 ⟨g, 0, none⟩ _ l Try.underlying69 Try.underlying5 Try.underlying9 (fun j hj => ?_)
    have hh2 : W.heap[g]? = some (.cells cur 5 (0, 0)) := by rw [hW]; exact hh
    rw [add0, Nat.zero_add, cell_of_heap hh2]
    have hq : (bvs l)[j]? = some (.int .u8 ((l[j]).toNat : Int)) := by simp [bvs, nums, hj]
    rw [← ht, Nat.mul_one, List.getElem?_take_of_lt hj] at hq
    simpa using hq
theorem drop_cons {D : List Int} {k : Nat} {x : Int} (h : D[k]? = some x) : D.drop k = x :: D.drop (k + 1) := by
  obtain ⟨hl, he⟩ := List.getElem?_eq_some_iff.1 h
  rw [List.drop_eq_getElem_cons hl, he]
theorem unB_snoc {ws : List Int} {j : Nat} {x : Int} (h : ws[j]? = some x) : unB (ws.take (j + 1)) = unB (ws.take j) ++ [UInt8.ofNat (x % 256).toNat] := by
  rw [List.take_add_one, h]
  simp [unB]
theorem wrap_u8 {x : Int} (h : 0 ≤ x) : IntKind.u8.wrap x = ((UInt8.ofNat (x % 256).toNat).toNat : Int) := by
  simp [IntKind.wrap, IntKind.bits, IntKind.signed]
  omega
/-- What reading strictly says, as far as reading freely has come. -/
def Step (D : List Int) (S : PS) (k at' : Nat) : Prop := decS D = rdK S (16 - k) (D.drop at') k ∨ decS D = none
theorem Step.skip {D : List Int} {S : PS} {k at' : Nat} (h : Step D S k at') (hk : k < 16) (hx : D[at']? = some 0) (hs : S k = none) : Step D S (k + 1) (at' + 1) := by
  rcases h with h | h
  · left
    have h1 : rd1 (D.drop at') = some (1, none) := by rw [drop_cons hx, rd1, if_neg (by omega), if_pos rfl]
    rw [h, show 16 - k = (16 - (k + 1)) + 1 by omega, rdK_some h1, ps_set_none hs, List.drop_drop]
  · exact Or.inr h
theorem Step.bad {D : List Int} {S : PS} {k at' : Nat} (h : Step D S k at') (hk : k < 16) (h1 : rd1 (D.drop at') = none) : decS D = none := by
  rcases h with h | h
  · rw [h, show 16 - k = (16 - (k + 1)) + 1 by omega, rdK_none h1]
  · exact h
theorem bad_end {D : List Int} {at' : Nat} (h : D.length ≤ at') : rd1 (D.drop at') = none := by
  rw [List.drop_eq_nil_of_le h]
  rfl
theorem bad_one {D : List Int} {at' : Nat} {x : Int} (hx : D[at']? = some x) (h0 : x ≠ 0) (h : rdB (D.drop (at' + 1)) = none) : rd1 (D.drop at') = none := by
  rw [drop_cons hx, rd1]
  by_cases h1 : 1 < x
  · rw [if_pos h1]
  · rw [if_neg h1, if_neg h0, h]
    rfl
theorem Step.got {D : List Int} {S : PS} {k at' m : Nat} {x : Int} (h : Step D S k at') (hk : k < 16) (hx : D[at']? = some x) (h0 : x ≠ 0) (hc : D[at' + 1]? = some (m : Int)) (hm : m ≤ 8) (hl : at' + 2 + m ≤ D.length) : Step D (S.set k (some (unB ((D.drop (at' + 2)).take m)))) (k + 1) (at' + (2 + m)) := by
  rcases h with h | h
  · have hB : rdB (D.drop (at' + 1)) = if okB ((D.drop (at' + 2)).take m) then some (unB ((D.drop (at' + 2)).take m)) else none := by
      rw [drop_cons hc, rdB, if_neg (by rw [List.length_drop]; omega), Int.toNat_natCast]
    by_cases hb : okB ((D.drop (at' + 2)).take m) = true
    · rw [if_pos hb] at hB
      by_cases h1 : 1 < x
      · exact Or.inr (Step.bad (Or.inl h) hk (by rw [drop_cons hx, rd1, if_pos h1]))
      · left
        have hlen : (unB ((D.drop (at' + 2)).take m)).length = m := by rw [unB_len, List.length_take, List.length_drop]; omega
        have h2 : rd1 (D.drop at') = some (2 + m, some (unB ((D.drop (at' + 2)).take m))) := by
          rw [drop_cons hx, rd1, if_neg h1, if_neg h0, hB]
          show some (2 + (unB ((D.drop (at' + 2)).take m)).length, _) = _
          rw [hlen]
        rw [h, show 16 - k = (16 - (k + 1)) + 1 by omega, rdK_some h2, List.drop_drop]
    · rw [if_neg hb] at hB
      exact Or.inr (Step.bad (Or.inl h) hk (bad_one hx h0 hB))
  · exact Or.inr h
/-- The error of Decode. -/
def deE (D : List Int) : Int := if (decS D).isSome then 0 else 101
theorem deE_no {D : List Int} (h : decS D = none) : deE D = 101 := by unfold deE; rw [h]; rfl
theorem deE_end {D : List Int} {S : PS} {at' k : Nat} (h : Step D S k at') (hk : k = 16) (hp : ∀ x ∈ D, 0 ≤ x) (hF : Fit8 S) (h0 : ∀ j, k ≤ j → S j = none) : deE D = if decide (encS S = D) then 0 else 101 := by
  subst hk
  by_cases e : encS S = D
  · have : decS D = some S := by rw [← e]; exact dec_enc hF h0
    unfold deE
    rw [this, decide_eq_true e]
    rfl
  · rw [decide_eq_false e]
    refine deE_no ?_
    rcases h with h | h
    · cases hd : decS D with
      | none => rfl
      | some T =>
        exfalso
        rw [hd] at h
        have h2 : T = S := by
          by_cases q : D.drop at' = []
          · rw [show 16 - 16 = 0 from rfl, rdK, if_pos q] at h
            exact (Option.some.inj h)
          · rw [show 16 - 16 = 0 from rfl, rdK, if_neg q] at h
            cases h
        subst h2
        exact e (dec_back hp hd).1
    · exact h
end Go.Proofs.Ytpnmaoinnmmfdaa
