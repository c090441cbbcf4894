/- The reference of package caps: Drop. -/
import Derived.Test.YtfnafjddajgahaaGreatRefE8
import Derived.Test.YtfnafjddajgahaaGreatRelR8
import Derived.Deep.DeepCutAuto
namespace Go.Proofs.YtfnafjddajgahaaGreat
open Go.RowKit
namespace Ca
set_option linter.unusedVariables false

/-- Nothing is appended: the slice is as it was. -/
theorem run_append_zero {P : Program} (w : World) (t e : TypeId) (i : TypeInfo) (ht : P.underlying t = some (.slice e)) (hi : P.info? e = some i) (a b : Option Addr) (n c cap : Nat) (hle : n ≤ c) (ty : TypeId) :
    (Builtin.append_ #[t, t] ty #[.slice a n c, .slice b 0 cap]).run P w = .ok (.slice a n c) w := by
  cases a <;> cases b <;> simp [Builtin.append_, run_underlying ht, sizeOf, typeInfo, hi, Builtin.lenOf, Builtin.firstCells, loadCells, loadCellsFrom, hle, storeCells]

/-- One cell of a row is laid anew. -/
theorem ccells_set : ∀ (L : List Ce) (i : Nat) (d : Ce) (v : Int), L[i]? = some d → (ccells L).set (i * 8 + 1) (.int .i64 v) = ccells (L.set i ⟨d.no, v, d.env, d.slot, d.x⟩)
  | [], i, d, v, h => by simp at h
  | e :: L, i, d, v, h => by
    have e1 : ccells (e :: L) = ceRow e ++ ccells L := rfl
    cases i with
    | zero =>
      simp at h
      subst h
      rfl
    | succ i =>
      simp at h
      rw [e1, List.set_append, if_neg (by simp; omega)]
      have := ccells_set L i d v h
      have e2 : (i + 1) * 8 + 1 - (ceRow e).length = i * 8 + 1 := by simp; omega
      rw [e2, this]
      rfl
section
variable {M : Nat} {w w' : World} {c : Nat} {sv : Value} {L : List Ce} {last : Int}
theorem RefAt.setOb {g cap n : Nat} (h : RefAt M w c (.slice (some ⟨g, 0, none⟩) n cap) L last) {i : Nat} {d : Ce} (hd : L[i]? = some d) (v : Int) :
    RefAt M (w.setCell ⟨g, i * 8 + 1, none⟩ (.int .i64 v)) c (.slice (some ⟨g, 0, none⟩) n cap) (L.set i ⟨d.no, v, d.env, d.slot, d.x⟩) last := by
  have hcg : c ≠ g := by
    intro e
    exact h.apart (by rw [e]; rfl)
  have hlen : i < L.length := (List.getElem?_eq_some_iff.1 hd).1
  refine ⟨(Below.heap_setCell _ _ _ _ hcg).trans h.head, ?_, ?_⟩
  · obtain ⟨h1, h2⟩ := h.own
    rw [List.length_set]
    refine ⟨by rw [ccells_len, List.length_set], ?_⟩
    rcases h2 with ⟨h2, _⟩ | ⟨g', cap', cur, e, hM, hh, q1, q2, q3, q4⟩
    · cases h2
    · right
      have e' := e
      simp only [Value.slice.injEq, Option.some.injEq, Addr.mk.injEq] at e'
      obtain ⟨⟨rfl, _⟩, _, rfl⟩ := e'
      refine ⟨g, cap, cur.setIfInBounds (i * 8 + 1) (.int .i64 v), e, hM, ?_, q1, q2, by simp [q3], ?_⟩
      · rw [setCell_eq_setRow w g _ _ _ _ _ hh, setRow_heap w g _ _ _ _ hh]
      · rw [← ccells_set L i d v hd, ← q4, Array.toList_setIfInBounds, List.take_set]
  · intro e
    have := congrArg List.length e
    simp at this
    subst this
    simp at hlen
theorem RefAt.keepU {b : Nat} (h : RefAt M w c sv L last) (hu : Upd b w w') (hbc : b ≠ c) (hbM : b < M) : RefAt M w' c sv L last :=
  ⟨(hu.block _ h.lt (fun e => hbc e.symm)).trans h.head, ownsRow_at h.own (fun g hg => hu.block g (h.own.lt g hg).2 (fun e => by have := ownsRow_low h.own g hg; omega)), h.nil⟩
theorem RefAt.mono {M' : Nat} (h : RefAt M w c sv L last) (hM : M' ≤ M) : RefAt M' w c sv L last := ⟨h.head, ownsRow_mono h.own hM, h.nil⟩
end
theorem _root_.Go.Proofs.YtfnafjddajgahaaGreat.Upd.far {c g o : Nat} {w w' : World} (h : Upd c w w') (hg : w.heap.size ≤ g) (v : Value) : Upd c w (w'.setCell ⟨g, o, none⟩ v) :=
  ⟨h.os, h.tape, h.output, by simpa [World.setCell] using h.size, fun k hk hb => (Below.heap_setCell _ _ _ _ (by show k ≠ g; omega)).trans (h.block k hk hb)⟩

/-- Those that are left, the first i of them seen to. -/
def dTo (d : Ce) (R : List Ce) (i : Nat) : List Ce := (R.take i).map (rdropG d) ++ R.drop i
theorem dTo_len (d : Ce) (R : List Ce) (i : Nat) : (dTo d R i).length = R.length := by
  unfold dTo
  rw [List.length_append, List.length_map, List.length_take, List.length_drop]
  omega
theorem dTo_zero (d : Ce) (R : List Ce) : dTo d R 0 = R := by simp [dTo]
theorem dTo_all (d : Ce) (R : List Ce) : dTo d R R.length = R.map (rdropG d) := by simp [dTo]
theorem dTo_step {d : Ce} {R : List Ce} {i : Nat} {e : Ce} (he : R[i]? = some e) : (dTo d R i)[i]? = some e ∧ (dTo d R i).set i (rdropG d e) = dTo d R (i + 1) := by
  obtain ⟨hi, rfl⟩ := List.getElem?_eq_some_iff.1 he
  have hl : ((R.take i).map (rdropG d)).length = i := by simp; omega
  have h2 : R.drop i = R[i] :: R.drop (i + 1) := by simp
  have h3 : R.take (i + 1) = R.take i ++ [R[i]] := by simp
  unfold dTo
  constructor
  · rw [List.getElem?_append_right (by omega), hl, h2]
    simp
  · rw [List.set_append, if_neg (by omega), hl, h2, h3, List.map_append, Nat.sub_self]
    simp only [List.set_cons_zero, List.map_cons, List.map_nil, List.append_assoc, List.cons_append, List.nil_append]
theorem dTo_hit {d : Ce} {R : List Ce} {i : Nat} {e : Ce} (he : R[i]? = some e) (ho : e.ob = d.no) : (dTo d R i).set i ⟨e.no, d.ob, e.env, e.slot, e.x⟩ = dTo d R (i + 1) := by
  have h := (dTo_step (d := d) he).2
  unfold rdropG at h
  rw [if_pos ho] at h
  exact h
theorem dTo_miss {d : Ce} {R : List Ce} {i : Nat} {e : Ce} (he : R[i]? = some e) (ho : e.ob ≠ d.no) : dTo d R i = dTo d R (i + 1) := by
  have h := dTo_step (d := d) he
  have h2 := h.2
  unfold rdropG at h2
  rw [if_neg ho] at h2
  rw [← h2]
  obtain ⟨hi, h3⟩ := List.getElem?_eq_some_iff.1 h.1
  have h4 := List.set_getElem_self hi
  rw [h3] at h4
  exact h4.symm
def mTo (d : Ce) (R : List Ce) (i : Nat) : Bool := !((R.take i).any fun c => meetsB c.x d.x)
theorem mTo_step {d : Ce} {R : List Ce} {i : Nat} {e : Ce} (he : R[i]? = some e) : mTo d R (i + 1) = (mTo d R i && !meetsB e.x d.x) := by
  obtain ⟨hi, rfl⟩ := List.getElem?_eq_some_iff.1 he
  have h3 : R.take (i + 1) = R.take i ++ [R[i]] := by simp
  unfold mTo
  rw [h3, List.any_append]
  simp

theorem rdrop_no (M c : Nat) (sv : Value) (L : List Ce) (last n s : Int) (w : World) (h : RefAt M w c sv L last) (hl : L.length ≤ 900) (hf : rfindI L n s = -1) :
    Calls Tryz.prog 75 #[.pointer (some ⟨c, 0, none⟩), .int .i64 n, .int .i64 s] w fun e w' => e = .returned (.tuple #[.bool false, .int .i64 104]) ∧ w' = w := by
  have hfa := find_at M c sv L last n s w h (by omega)
  rw [hf] at hfa
  clear h hf
  go_enter Tryz.func75, Tryz.ntmps75
  go_wp2_with (go_at_call 72; refine hfa.mono ?_; rintro e w1 ⟨rfl, hw1⟩; rw [hw1]; clear hw1 w1)
  go_ret2
  exact ⟨rfl, rfl⟩
end Ca
end Go.Proofs.YtfnafjddajgahaaGreat
