/- The reference's Decode and Depths at longer texts: up to what the bulk's bound lets in. -/
import Derived.Test.YtedkijionpkmmaaValR
namespace Go.Proofs.Ytedkijionpkmmaa
open Go.RowKit
set_option linter.unusedVariables false

set_option maxHeartbeats 2000000 in
theorem rdecode_big (s : List UInt8) (hl : s.length ≤ 1100000) (w : World) :
    Calls Try.prog 20 #[tx s] w fun e w' => Decoded s w e w' ∧ Below w.heap.size w w' := by
  have hsz : (ByteArray.mk s.toArray).size = s.length := by simp [ByteArray.size]
  obtain ⟨i0, hi0, hzz⟩ := Option.map_eq_some_iff.1 insInfo
  simp only [Prod.mk.injEq] at hzz
  obtain ⟨hz0, hz1, hz2⟩ := hzz
  go_enter Try.func20, Try.ntmps20
  go_wp2
  go_loopw [4, 5] (fun b a wr => ∃ (k : Nat) (u : Value) (l : List Ins), k ≤ s.length ∧ l.length ≤ k ∧ a = .int .i64 k ∧ u = b ∧ Hid (decAt s 0 = (decAt s k).map (l ++ ·)) ∧ InsOwn wr w.heap.size u l ∧ Below w.heap.size w wr) (fun _ a _ => s.length - (intOf a).toNat)
  case atStart => exact ⟨0, _, [], by omega, by simp, rfl, rfl, (show decAt s 0 = (decAt s 0).map _ by simp), World.ownsRow_nil _ _ _ _, Below.refl _ _⟩
  case round =>
    obtain ⟨k, u, l, hk, hlk, rfl, rfl, HD, hB, hb⟩ := hrel
    have hbs := hb.size
    by_cases hlt : k < s.length
    · have hone := rone_at s k (by omega) (by omega) wr
      rw [one_in s k hlt] at hone
      cases hi : isIns s k with
      | false =>
        rw [hi] at hone
        have HN : Hid (decAt s 0 = none) := by show _ = _; rw [HD.out, decAt_bad s k hlt hi]; rfl
        clear hi
        go_wp2_with fail
        refine hone.mono ?_
        rintro e w1 ⟨rfl, hb1⟩
        dsimp only [insRow, noIns]
        go_wp2
        go_ret2
        exact ⟨Decoded.none HN.out rfl, (hb.trans (hb1.mono hbs)).alloc (Nat.le_trans hbs hb1.size) _⟩
      | true =>
        rw [hi] at hone
        have HN : Hid _ := dec_snoc HD.out hlt hi
        have hbd := (isIns_bound hi).2
        have hF := insAt_fit s k hi (by omega)
        have HL : Hid ((insAt s k).len = 1 + wAt s k) := by exact rfl
        clear hi
        have hB1 : ∀ w1, Below wr.heap.size wr w1 → InsOwn w1 w.heap.size u l := fun w1 hb1 => by
          rcases hB with ⟨h1, h2 | ⟨g, cap, cur, hv, hg, hh, r⟩⟩
          · exact ⟨h1, Or.inl h2⟩
          · exact ⟨h1, Or.inr ⟨g, cap, cur, hv, hg, by rw [hb1.block g (lt_of_heap hh)]; exact hh, r⟩⟩
        generalize hx : insAt s k = i at *
        have HX : Hid _ := hx
        clear hx
        go_wp2_with fail
        refine hone.mono ?_
        rintro e w1 ⟨rfl, hb1⟩
        dsimp only [insRow]
        have hB1' := hB1 w1 hb1
        have hb1w := hb.trans (hb1.mono hbs)
        have hb1s := hb1w.size
        clear hB1 hone
        have hrow : ((w1.alloc (.cells #[.int .i64 i.op, .int .u64 i.arg, .int .i64 i.pos, .int .i64 i.len] 48)).alloc (.cells #[.int .i64 i.op, .int .u64 i.arg, .int .i64 i.pos, .int .i64 i.len] 48)).heap[w1.heap.size + 1]? = some (.cells #[.int .i64 i.op, .int .u64 i.arg, .int .i64 i.pos, .int .i64 i.len] 48) := by
          have := heap_alloc_new (w1.alloc (.cells #[.int .i64 i.op, .int .u64 i.arg, .int .i64 i.pos, .int .i64 i.len] 48)) (.cells #[.int .i64 i.op, .int .u64 i.arg, .int .i64 i.pos, .int .i64 i.len] 48)
          rw [World.size_alloc] at this
          exact this
        have HRW : Hid _ := hrow
        clear hrow
        have hL9 : 0 ≤ i.len ∧ i.len ≤ 9 := by have := HL.out; have := opw_le (byteAt s k).toNat; have : wAt s k ≤ 8 := this; omega
        go_wp2_with (at_builtin; refine wpList_append_lies _ rfl _ _ _ rfl w.heap.size 48 i0 _ 4 32 Try.underlying42 hi0 hz0 hz1 hz2 rfl (by omega) u _ _ rfl ((hB1'.alloc _).alloc _) ⟨w1.heap.size + 1, 0, none⟩ 1 1 [.int .i64 i.op, .int .u64 i.arg, .int .i64 i.pos, .int .i64 i.len] rfl rfl (World.news_of_block (cs := #[.int .i64 i.op, .int .u64 i.arg, .int .i64 i.pos, .int .i64 i.len]) (t := 48) (fr := (0, 0)) HRW.out) (by simp [Value.oneCell']) (by omega) (by unfold maxLen; omega) (by omega) (by simp; omega) _ rfl ?_)
        intro gg cap2 w2 hown2 hgrow hat hlt2
        have hbox : w2.heap[w1.heap.size]? = some (.cells #[.int .i64 i.op, .int .u64 i.arg, .int .i64 i.pos, .int .i64 i.len] 48) := by
          rw [hgrow.block _ (by simp; omega) (fun e => by have := (hB1'.lt _ e.symm).2; omega), Lib.alloc_old _ _ _ (by simp), heap_alloc_new]
        have c3 : w2.cell? ⟨w1.heap.size, 3, none⟩ = some (.int .i64 i.len) := by rw [cell_of_heap hbox]; rfl
        have hbw2 : Below w.heap.size w w2 := ((hb1w.alloc hb1s _).alloc (by simp; omega) _).trans (below_grown hgrow (by simp; omega) (ownsRow_low hB1'))
        rw [insCells_snoc] at hown2
        clear hbox hgrow hat hlt2 HRW
        go_wp2
        go_roundw
        case rel =>
          refine ⟨k + 1 + wAt s k, _, l ++ [i], hbd, by simp; omega, ?_, rfl, HN, by rw [InsOwn, List.length_append]; exact hown2, hbw2⟩
          rw [HL.out]
          congr 1
          omega
        case measure => have := HL.out; simp [intOf]; omega
    · obtain rfl : k = s.length := by omega
      have HN : Hid (decAt s 0 = some l) := by show _ = _; rw [HD.out, decAt_end s _ hlt]; simp
      obtain ⟨ua, un, uc, rfl⟩ := own_slice hB
      obtain ⟨rfl, hrow⟩ := InsOwn.row hB
      go_wp2
      go_ret2
      exact ⟨Decoded.some HN.out ⟨ua, uc, rfl, hrow⟩, hb⟩

set_option maxHeartbeats 1000000 in
set_option maxRecDepth 100000 in
theorem rdepths_long (s : List UInt8) (hs : s.length ≤ 1100000) (hlong : 192 < s.length) (w : World) :
    Calls Try.prog 19 #[tx s] w fun e w' => e = .returned (.tuple #[.slice none 0 0, .int .i64 8]) ∧ Below w.heap.size w w' := by
  have hsz : (ByteArray.mk s.toArray).size = s.length := by simp [ByteArray.size]
  have hdec := rdecode_big s hs w
  cases hd : decAt s 0 with
  | none =>
    go_enter Try.func19, Try.ntmps19
    go_wp2_with fail
    refine hdec.mono ?_
    rintro e w1 ⟨hd1, hb1⟩
    unfold Decoded at hd1
    rw [hd] at hd1
    subst hd1
    clear hdec hd
    go_wp2
    go_ret2
    exact ⟨rfl, hb1⟩
  | some l =>
    go_enter Try.func19, Try.ntmps19
    go_wp2_with fail
    refine hdec.mono ?_
    rintro e w1 ⟨hd1, hb1⟩
    unfold Decoded at hd1
    rw [hd] at hd1
    obtain ⟨a0, ca, rfl, _⟩ := hd1
    clear hdec hd
    go_wp2
    go_ret2
    exact ⟨rfl, hb1⟩
theorem rdepths_all (s : List UInt8) (hs : s.length ≤ 1100000) (w : World) :
    Calls Try.prog 19 #[tx s] w fun e w' => RTold s e w' ∧ Below w.heap.size w w' := by
  by_cases h : 192 < s.length
  · exact (rdepths_long s hs h w).mono (fun e w' ⟨he, hb⟩ => ⟨Or.inr ⟨fun l D hv => by have := hv.size; omega, he⟩, hb⟩)
  · exact rdepths_at s (by omega) w
end Go.Proofs.Ytedkijionpkmmaa
