/- The contracts of package mmu's table, the last: Frames, which appends in a loop. -/
import Derived.Test.YthkffhfjkddpkaaMmuB
import Derived.Deep.AppendLies
namespace Go.Proofs.Ythkffhfjkddpkaa
open Go.RowKit
set_option linter.unusedVariables false

/-- Numbers as cells. -/
def ivs (zs : List Int) : List Value := zs.map (Value.int .i64)

theorem ownsRow_below {w w' : World} {base : Nat} {e : TypeId} {size : Nat} {v : Value} {n : Nat} {xs : List Value} (h : w.ownsRow base e size v n xs) (hb : Below w.heap.size w w') : w'.ownsRow base e size v n xs := by
  obtain ⟨h1, h2⟩ := h
  refine ⟨h1, ?_⟩
  rcases h2 with h2 | ⟨g, cap, cur, hv, hg, hh, r⟩
  · exact Or.inl h2
  · exact Or.inr ⟨g, cap, cur, hv, hg, (hb.block g (lt_of_heap hh)).trans hh, r⟩

theorem intInfo : (Try.prog.info? 3).map (fun i => (i.zero, i.size, i.bytes)) = some (some (.int .i64 0), 1, 8) := by kernel_rfl

theorem below_grown {B : Nat} {w w' : World} {v : Value} (h : w.grownBy w' v.ownBlock) (hs : B ≤ w.heap.size) (hv : ∀ g, v.ownBlock = some g → B ≤ g) : Below B w w' :=
  ⟨h.os, h.tape, h.output, h.size, fun k hk => h.block k (by omega) (fun e => by have := hv k e.symm; omega)⟩

theorem ownsRow_low {w : World} {base : Nat} {e : TypeId} {size : Nat} {v : Value} {n : Nat} {xs : List Value} (h : w.ownsRow base e size v n xs) : ∀ g, v.ownBlock = some g → base ≤ g := by
  intro g hg
  rcases h.2 with ⟨e2, _⟩ | ⟨g', cap, cur, e2, hb, _⟩
  · rw [e2] at hg; simp [Value.ownBlock] at hg
  · rw [e2] at hg; simp [Value.ownBlock] at hg; omega

/-- The frames of the pages under k. -/
def frs (f : Int → Option (Int × Bool)) (k : Nat) : List Int := (List.range k).filterMap (fun (p : Nat) => (f (p : Int)).map (fun x => x.1))
theorem frs_none {f : Int → Option (Int × Bool)} {k : Nat} (h : f k = none) : frs f (k + 1) = frs f k := by
  simp [frs, List.range_succ, h]
theorem frs_some {f : Int → Option (Int × Bool)} {k : Nat} {x : Int × Bool} (h : f k = some x) : frs f (k + 1) = frs f k ++ [x.1] := by
  simp [frs, List.range_succ, h]
theorem frs_len (f : Int → Option (Int × Bool)) (k : Nat) : (frs f k).length ≤ k := by
  have := List.length_filterMap_le (fun (p : Nat) => (f (p : Int)).map (fun x => x.1)) (List.range k)
  simpa [frs] using this

set_option maxHeartbeats 1000000 in
theorem frames_nil (w : World) :
    Calls Try.prog 23 #[.pointer none] w fun e w' => e = .returned (.slice none 0 0) ∧ Below w.heap.size w w' := by
  go_enter Try.func23, Try.ntmps23
  go_wp2
  go_loopw [3, 7] (fun s i wr => ∃ (k : Nat), k ≤ 4 ∧ i = .int .i64 k ∧ s = .slice none 0 0 ∧ Below w.heap.size w wr) (fun _ i _ => 4 - (intOf i).toNat)
  case atStart => exact ⟨0, by omega, rfl, rfl, Below.refl _ _⟩
  case round =>
    obtain ⟨k, hk, rfl, rfl, hb⟩ := hrel
    by_cases hlt : k < 4
    · go_wp2_with fail
      refine (at_nil _ _).mono ?_
      rintro e w1 ⟨rfl, hb1⟩
      unfold pv
      go_wp2
      go_roundw
      case rel =>
        have h1 := hb.size
        have h2 := hb1.size
        exact ⟨k + 1, by omega, by go_num, rfl, (hb.trans (hb1.mono hb.size)).alloc (by omega) _⟩
      case measure => simp [intOf]; omega
    · have : k = 4 := by omega
      subst this
      go_wp2
      go_ret
      exact ⟨rfl, hb⟩

set_option maxHeartbeats 2000000 in
theorem frames_at (t mb : Nat) (f : Int → Option (Int × Bool)) (w : World) (h : TblAt w t mb f) :
    Calls Try.prog 23 #[.pointer (some ⟨t, 0, none⟩)] w fun e w' => ∃ v, e = .returned v ∧ w'.ownsRow w.heap.size 3 1 v (frs f 4).length (ivs (frs f 4)) ∧ Below w.heap.size w w' := by
  obtain ⟨i0, hi0, hzz⟩ := Option.map_eq_some_iff.1 intInfo
  simp only [Prod.mk.injEq] at hzz
  obtain ⟨hz0, hz1, hz2⟩ := hzz
  go_enter Try.func23, Try.ntmps23
  go_wp2
  go_loopw [3, 7] (fun s i wr => ∃ (k : Nat) (v : Value), k ≤ 4 ∧ i = .int .i64 k ∧ v = s ∧ wr.ownsRow w.heap.size 3 1 v (frs f k).length (ivs (frs f k)) ∧ Below w.heap.size w wr) (fun _ i _ => 4 - (intOf i).toNat)
  case atStart => exact ⟨0, _, by omega, rfl, rfl, World.ownsRow_nil _ _ _ _, Below.refl _ _⟩
  case round =>
    obtain ⟨k, v, hk, rfl, rfl, hown, hb⟩ := hrel
    by_cases hlt : k < 4
    · have ha := at_at t mb f k wr (h.below hb)
      cases hf : f k with
      | none =>
        rw [hf] at ha
        go_wp2_with fail
        refine ha.mono ?_
        rintro e w1 ⟨rfl, hb1⟩
        simp only [pv, Option.getD_none, Option.isSome_none]
        go_wp2
        go_roundw
        case rel =>
          have h1 := hb.size
          have h2 := hb1.size
          refine ⟨k + 1, _, by omega, by go_num, rfl, ?_, (hb.trans (hb1.mono hb.size)).alloc (by omega) _⟩
          rw [frs_none hf]
          exact (ownsRow_below hown hb1).alloc _
        case measure => simp [intOf]; omega
      | some x =>
        rw [hf] at ha
        have hle := frs_len f k
        go_wp2_with fail
        refine ha.mono ?_
        rintro e w1 ⟨rfl, hb1⟩
        simp only [pv, Option.getD_some, Option.isSome_some]
        have hown1 := ownsRow_below hown hb1
        have h1 := hb.size
        have h2 := hb1.size
        go_wp2_with (first
          | (at_builtin; refine wpList_append_lies _ rfl _ _ _ rfl w.heap.size 3 i0 _ 1 8 Try.underlying58 hi0 hz0 hz1 hz2 rfl (by omega) v _ _ rfl ((hown1.alloc _).alloc _) ⟨w1.heap.size + 1, 0, none⟩ 1 1 [.int .i64 x.1] rfl rfl (World.news_of_block (cs := #[.int .i64 x.1]) (t := 3) (fr := (0, 0)) (by have := heap_alloc_new (w1.alloc (.cells #[.int .i64 x.1, .bool x.2] 29)) (.cells #[.int .i64 x.1] 3); rw [World.size_alloc] at this; exact this)) (by simp [Value.oneCell']) (by omega) (by unfold maxLen; omega) (by omega) (by simp; omega) _ rfl ?_; intro gg cap w2 hown2 hgrow hat hlt2)
          | go_in)
        go_roundw
        case rel =>
          refine ⟨k + 1, _, by omega, by go_num, rfl, ?_, ((hb.trans (hb1.mono hb.size)).alloc (by omega) _ |>.alloc (by simp; omega) _).trans (below_grown hgrow (by simp; omega) (ownsRow_low hown))⟩
          rw [frs_some hf]
          simpa [ivs] using hown2
        case measure => simp [intOf]; omega
    · have : k = 4 := by omega
      subst this
      go_wp2
      go_ret
      exact ⟨_, rfl, hown, hb⟩

end Go.Proofs.Ythkffhfjkddpkaa
