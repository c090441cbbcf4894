/- The contracts of Decode, of package code and of its reference, and of the reference's List. -/
import Derived.Test.YtedkijionpkmmaaCodE
import Derived.Laws.StructEq
namespace Go.Proofs.Ytedkijionpkmmaa
open Go.RowKit
set_option linter.unusedVariables false

theorem insInfo : (Try.prog.info? 48).map (fun i => (i.zero, i.size, i.bytes)) = some (some (.agg #[.int .i64 0, .int .u64 0, .int .i64 0, .int .i64 0]), 4, 32) := by kernel_rfl
/-- The cells of a list of instructions. -/
def insCells (l : List Ins) : List Value := l.flatMap fun i => (insRow i).toList
theorem insCells_snoc (l : List Ins) (i : Ins) : insCells l ++ [.int .i64 i.op, .int .u64 i.arg, .int .i64 i.pos, .int .i64 i.len] = insCells (l ++ [i]) := by simp [insCells, insRow]
theorem insCells_len : ∀ (l : List Ins), (insCells l).length = l.length * 4
  | [] => rfl
  | i :: l => by
    have e : insCells (i :: l) = (insRow i).toList ++ insCells l := rfl
    rw [e, List.length_append, insCells_len l, List.length_cons]
    simp [insRow]
    omega
theorem insCells_get : ∀ (l : List Ins) (j : Nat) (i : Ins), l[j]? = some i → (insCells l)[j * 4]? = some (.int .i64 i.op) ∧ (insCells l)[j * 4 + 1]? = some (.int .u64 i.arg) ∧ (insCells l)[j * 4 + 2]? = some (.int .i64 i.pos) ∧ (insCells l)[j * 4 + 3]? = some (.int .i64 i.len)
  | [], j, i, h => by simp at h
  | x :: l, 0, i, h => by
    simp at h
    subst h
    exact ⟨rfl, rfl, rfl, rfl⟩
  | x :: l, j + 1, i, h => by
    have h' : l[j]? = some i := by simpa using h
    have := insCells_get l j i h'
    have e : insCells (x :: l) = [.int .i64 x.op, .int .u64 x.arg, .int .i64 x.pos, .int .i64 x.len] ++ insCells l := rfl
    have e4 : ∀ t, (j + 1) * 4 + t = 4 + (j * 4 + t) := fun t => by omega
    have hs : ∀ t, (insCells (x :: l))[(j + 1) * 4 + t]? = (insCells l)[j * 4 + t]? := fun t => by
      rw [e, e4 t, List.getElem?_append_right (by simp)]
      simp
    have hs0 := hs 0
    simp only [Nat.add_zero] at hs0
    rw [hs0, hs 1, hs 2, hs 3]
    exact this
/-- A slice of instructions in a block of its own. -/
abbrev InsOwn (w : World) (B : Nat) (v : Value) (l : List Ins) : Prop := w.ownsRow B 48 4 v l.length (insCells l)
theorem addr_add (g n : Nat) : (⟨g, 0, none⟩ : Addr).add n = ⟨g, n, none⟩ := by
  unfold Addr.add
  split <;> simp_all
theorem InsOwn.row {w : World} {B : Nat} {a0 : Option Addr} {n cap : Nat} {l : List Ins} (h : InsOwn w B (.slice a0 n cap) l) : n = l.length ∧ Row w a0 l := by
  rcases h.2 with ⟨hv, hn⟩ | ⟨g, c, cur, hv, r⟩
  · cases hv
    have : l = [] := List.length_eq_zero_iff.1 hn
    subst this
    exact ⟨rfl, fun j i hj => by simp at hj⟩
  · cases hv
    refine ⟨rfl, fun j i hj => ?_⟩
    obtain ⟨c0, c1, c2, c3⟩ := insCells_get l j i hj
    refine ⟨g, 0, rfl, ?_, ?_, ?_, ?_⟩
    · have := h.cells (g := g) rfl _ _ c0
      rw [addr_add] at this
      simpa using this
    · have := h.cells (g := g) rfl _ _ c1
      rw [addr_add] at this
      simpa using this
    · have := h.cells (g := g) rfl _ _ c2
      rw [addr_add] at this
      simpa using this
    · have := h.cells (g := g) rfl _ _ c3
      rw [addr_add] at this
      simpa using this

/-- Decode's answer. -/
def Decoded (s : List UInt8) (w0 : World) (e : Ending) (w' : World) : Prop :=
  match decAt s 0 with
  | some l => ∃ a0 cap, e = .returned (.tuple #[.slice a0 l.length cap, .int .i64 0]) ∧ Row w' a0 l
  | none => e = .returned (.tuple #[.slice none 0 0, .int .i64 8])
theorem Decoded.some {s : List UInt8} {w0 w' : World} {e : Ending} {l : List Ins} (h : decAt s 0 = .some l) (k : ∃ a0 cap, e = .returned (.tuple #[.slice a0 l.length cap, .int .i64 0]) ∧ Row w' a0 l) : Decoded s w0 e w' := by
  unfold Decoded
  rw [h]
  exact k
theorem Decoded.none {s : List UInt8} {w0 w' : World} {e : Ending} (h : decAt s 0 = .none) (k : e = .returned (.tuple #[.slice .none 0 0, .int .i64 8])) : Decoded s w0 e w' := by
  unfold Decoded
  rw [h]
  exact k
theorem dec_snoc {s : List UInt8} {l : List Ins} {k : Nat} (h : decAt s 0 = (decAt s k).map (l ++ ·)) (hk : k < s.length) (hi : isIns s k = true) : decAt s 0 = (decAt s (k + 1 + wAt s k)).map ((l ++ [insAt s k]) ++ ·) := by
  rw [h, decAt_step s k hk hi]
  cases decAt s (k + 1 + wAt s k) <;> simp

set_option maxHeartbeats 2000000 in
theorem rdecode_at (s : List UInt8) (hl : s.length ≤ 1000000) (w : World) :
    Calls Try.prog 20 #[tx s] w fun e w' => Decoded s w e w' ∧ Below w.heap.size w w' := by
  have hsz : (ByteArray.mk s.toArray).size = s.length := by simp [ByteArray.size]
  obtain ⟨i0, hi0, hzz⟩ := Option.map_eq_some_iff.1 insInfo
  simp only [Prod.mk.injEq] at hzz
  obtain ⟨hz0, hz1, hz2⟩ := hzz
  go_enter Try.func20, Try.ntmps20
  go_wp2
  go_loopw [4, 5] (fun b a wr => ∃ (k : Nat) (u : Value) (l : List Ins), k ≤ s.length ∧ l.length ≤ k ∧ a = .int .i64 k ∧ u = b ∧ Hid (decAt s 0 = (decAt s k).map (l ++ ·)) ∧ InsOwn wr w.heap.size u l ∧ Below w.heap.size w wr) (fun _ a _ => s.length - (intOf a).toNat)
  case atStart => exact ⟨0, _, [], by omega, by simp, rfl, rfl, (show decAt s 0 = (decAt s 0).map _ by simp), World.ownsRow_nil _ _ _ _, Below.refl _ _⟩
  case round =>
    obtain ⟨k, u, l, hk, hlk, rfl, rfl, HD, hB, hb⟩ := hrel
    have hbs := hb.size
    by_cases hlt : k < s.length
    · have hone := rone_at s k (by omega) (by omega) wr
      rw [one_in s k hlt] at hone
      cases hi : isIns s k with
      | false =>
        rw [hi] at hone
        have HN : Hid (decAt s 0 = none) := by show _ = _; rw [HD.out, decAt_bad s k hlt hi]; rfl
        clear hi
        go_wp2_with fail
        refine hone.mono ?_
        rintro e w1 ⟨rfl, hb1⟩
        dsimp only [insRow, noIns]
        go_wp2
        go_ret2
        exact ⟨Decoded.none HN.out rfl, (hb.trans (hb1.mono hbs)).alloc (Nat.le_trans hbs hb1.size) _⟩
      | true =>
        rw [hi] at hone
        have HN : Hid _ := dec_snoc HD.out hlt hi
        have hbd := (isIns_bound hi).2
        have hF := insAt_fit s k hi (by omega)
        have HL : Hid ((insAt s k).len = 1 + wAt s k) := by exact rfl
        clear hi
        have hB1 : ∀ w1, Below wr.heap.size wr w1 → InsOwn w1 w.heap.size u l := fun w1 hb1 => by
          rcases hB with ⟨h1, h2 | ⟨g, cap, cur, hv, hg, hh, r⟩⟩
          · exact ⟨h1, Or.inl h2⟩
          · exact ⟨h1, Or.inr ⟨g, cap, cur, hv, hg, by rw [hb1.block g (lt_of_heap hh)]; exact hh, r⟩⟩
        generalize hx : insAt s k = i at *
        have HX : Hid _ := hx
        clear hx
        go_wp2_with fail
        refine hone.mono ?_
        rintro e w1 ⟨rfl, hb1⟩
        dsimp only [insRow]
        have hB1' := hB1 w1 hb1
        have hb1w := hb.trans (hb1.mono hbs)
        have hb1s := hb1w.size
        clear hB1 hone
        have hrow : ((w1.alloc (.cells #[.int .i64 i.op, .int .u64 i.arg, .int .i64 i.pos, .int .i64 i.len] 48)).alloc (.cells #[.int .i64 i.op, .int .u64 i.arg, .int .i64 i.pos, .int .i64 i.len] 48)).heap[w1.heap.size + 1]? = some (.cells #[.int .i64 i.op, .int .u64 i.arg, .int .i64 i.pos, .int .i64 i.len] 48) := by
          have := heap_alloc_new (w1.alloc (.cells #[.int .i64 i.op, .int .u64 i.arg, .int .i64 i.pos, .int .i64 i.len] 48)) (.cells #[.int .i64 i.op, .int .u64 i.arg, .int .i64 i.pos, .int .i64 i.len] 48)
          rw [World.size_alloc] at this
          exact this
        have HRW : Hid _ := hrow
        clear hrow
        have hL9 : 0 ≤ i.len ∧ i.len ≤ 9 := by have := HL.out; have := opw_le (byteAt s k).toNat; have : wAt s k ≤ 8 := this; omega
        go_wp2_with (at_builtin; refine wpList_append_lies _ rfl _ _ _ rfl w.heap.size 48 i0 _ 4 32 Try.underlying42 hi0 hz0 hz1 hz2 rfl (by omega) u _ _ rfl ((hB1'.alloc _).alloc _) ⟨w1.heap.size + 1, 0, none⟩ 1 1 [.int .i64 i.op, .int .u64 i.arg, .int .i64 i.pos, .int .i64 i.len] rfl rfl (World.news_of_block (cs := #[.int .i64 i.op, .int .u64 i.arg, .int .i64 i.pos, .int .i64 i.len]) (t := 48) (fr := (0, 0)) HRW.out) (by simp [Value.oneCell']) (by omega) (by unfold maxLen; omega) (by omega) (by simp; omega) _ rfl ?_)
        intro gg cap2 w2 hown2 hgrow hat hlt2
        have hbox : w2.heap[w1.heap.size]? = some (.cells #[.int .i64 i.op, .int .u64 i.arg, .int .i64 i.pos, .int .i64 i.len] 48) := by
          rw [hgrow.block _ (by simp; omega) (fun e => by have := (hB1'.lt _ e.symm).2; omega), Lib.alloc_old _ _ _ (by simp), heap_alloc_new]
        have c3 : w2.cell? ⟨w1.heap.size, 3, none⟩ = some (.int .i64 i.len) := by rw [cell_of_heap hbox]; rfl
        have hbw2 : Below w.heap.size w w2 := ((hb1w.alloc hb1s _).alloc (by simp; omega) _).trans (below_grown hgrow (by simp; omega) (ownsRow_low hB1'))
        rw [insCells_snoc] at hown2
        clear hbox hgrow hat hlt2 HRW
        go_wp2
        go_roundw
        case rel =>
          refine ⟨k + 1 + wAt s k, _, l ++ [i], hbd, by simp; omega, ?_, rfl, HN, by rw [InsOwn, List.length_append]; exact hown2, hbw2⟩
          rw [HL.out]
          congr 1
          omega
        case measure => have := HL.out; simp [intOf]; omega
    · obtain rfl : k = s.length := by omega
      have HN : Hid (decAt s 0 = some l) := by show _ = _; rw [HD.out, decAt_end s _ hlt]; simp
      obtain ⟨ua, un, uc, rfl⟩ := own_slice hB
      obtain ⟨rfl, hrow⟩ := InsOwn.row hB
      go_wp2
      go_ret2
      exact ⟨Decoded.some HN.out ⟨ua, uc, rfl, hrow⟩, hb⟩
end Go.Proofs.Ytedkijionpkmmaa
