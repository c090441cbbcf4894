/- What januslaw11's statements take: deeds with their words, one and many. -/
import Derived.Test.YtikeknehkoccpaaIpcW
import Derived.Test.YtikeknehkoccpaaKinds
import Derived.ProofKit
import Derived.OpenShut
import Derived.ChangeOld
import Derived.ChangeSlices
import Derived.Lib.SmallJoins
import Derived.Deep.Slices
import Derived.SizedLaws
import Derived.Below
namespace Go.Proofs.Ytikeknehkoccpaa
open Go.ChangeShapes Go.WideShapes Go.ChangeAt Go.RowKit Go.Lib Go.Joins
set_option linter.unusedVariables false

/-- A deed: its kind, from whom, to whom, where its words lie, the words. -/
structure Deed where
  kind : Int
  fr : Int
  tt : Int
  a : Option Addr
  cap : Nat
  ws : List Int
abbrev deedRow (d : Deed) : Array Value := #[.int .i64 d.kind, .int .i64 d.fr, .int .i64 d.tt, .slice d.a d.ws.length d.cap]
theorem deedCells {w : World} {g : Nat} {d : Deed} {t : TypeId} (h : w.heap[g]? = some (.cells (deedRow d) t)) :
    w.cell? ⟨g, 0, none⟩ = some (.int .i64 d.kind) ∧ w.cell? ⟨g, 1, none⟩ = some (.int .i64 d.fr) ∧ w.cell? ⟨g, 2, none⟩ = some (.int .i64 d.tt) ∧ w.cell? ⟨g, 3, none⟩ = some (.slice d.a d.ws.length d.cap) := by
  refine ⟨?_, ?_, ?_, ?_⟩ <;> (rw [cell_of_heap h]; rfl)
/-- Its words can be read, and are no more than there may be in memory. -/
def DeedOk (w : World) (d : Deed) : Prop := Rd w d.a d.ws ∧ d.ws.length * 8 ≤ 140737488351232
section
variable {H : Type} {enc : TypeId × Value → H} {w : World} {base : Nat} {held : Bool}
/-- A slice of words that came in. -/
theorem words_in {n : Nat} {v : Value} {y : DataW H × List MemPlace} (h : DataW.trod enc Try.prog w base (fun _ => true) held n 29 [v] = some y) :
    ∃ a cap ws, v = .slice a ws.length cap ∧ Rd w a ws ∧ ((∀ k ∈ y.1.weights Try.prog 29, k ≤ reachBytes) → ws.length * 8 ≤ 140737488351232) := by
  rcases open_ints Try.underlying29 Try.underlying52 (by kernel_rfl) h with ⟨hcs, _⟩ | ⟨ad, l, c, zs, hcs, _, hl, hm, hz, hy, hcell, hwz⟩
  · simp only [List.cons.injEq, and_true] at hcs
    subst hcs
    exact ⟨none, 0, [], rfl, Rd.nil _ _, fun _ => by simp⟩
  · simp only [List.cons.injEq, and_true] at hcs
    subst hcs
    have hz' : zs.length = c := by simpa using hz
    have hlen : (zs.take l).length = l := by simp; omega
    refine ⟨some ad, c, zs.take l, by rw [hlen], ?_, fun hk => ?_⟩
    · intro j x hj
      have hjl : j < l := by have := (List.getElem?_eq_some_iff.1 hj).1; omega
      obtain ⟨gb, off, e, hc⟩ := ints_at hcell (by omega)
      subst e
      refine ⟨gb, off, rfl, ?_⟩
      rw [List.getElem?_take, if_pos hjl] at hj
      rw [hc j (by omega), List.getD_eq_getElem?_getD, hj]
      rfl
    · have hu : Try.prog.underlying 29 = some (.slice 52) := Try.underlying29
      have hb : Try.prog.bytesOf 52 = 8 := by kernel_rfl
      have := hk ((zs.take l).length * 8 + (zs.drop l).length * 8) (by
        rw [hy]
        unfold DataW.weights
        rw [hu]
        simp only [List.mem_cons]
        left
        rw [hb, ← Nat.add_mul]
        simp [lits])
      rw [show reachBytes = 140737488351232 from rfl] at this
      rw [hlen] at *
      omega
theorem int_in {n : Nat} {v : Value} {y : DataW H × List MemPlace} (h : DataW.trod enc Try.prog w base (fun _ => true) held n 3 [v] = some y) : ∃ x : Int, v = .int .i64 x ∧ y.1.weights Try.prog 3 = [] := by
  obtain ⟨x, e, e2, hw⟩ := DataW.trod_int Try.underlying3 h
  simp only [List.cons.injEq, and_true] at e
  exact ⟨x, e, by rw [e2]; rfl⟩
theorem deed_in {n : Nat} {cs : List Value} {y : DataW H × List MemPlace} (h : DataW.trod enc Try.prog w base (fun _ => true) held n 31 cs = some y) :
    ∃ d : Deed, cs = (deedRow d).toList ∧ ((∀ k ∈ y.1.weights Try.prog 31, k ≤ reachBytes) → DeedOk w d) := by
  have hu := Try.underlying31
  obtain ⟨y0, y1, y2, y3, m, rfl, hl, h0, h1, h2, h3⟩ := trod_struct4 hu h
  rw [show Try.prog.cellsOf 31 = 4 by kernel_rfl] at hl
  match cs, hl with
  | [c0, c1, c2, c3], _ =>
    have k0 : DataW.trod enc Try.prog w base (fun _ => true) held m 3 [c0] = some y0 := h0
    have k1 : DataW.trod enc Try.prog w base (fun _ => true) held m 3 [c1] = some y1 := h1
    have k2 : DataW.trod enc Try.prog w base (fun _ => true) held m 3 [c2] = some y2 := h2
    have k3 : DataW.trod enc Try.prog w base (fun _ => true) held m 29 [c3] = some y3 := h3
    obtain ⟨x0, rfl, _⟩ := int_in k0
    obtain ⟨x1, rfl, _⟩ := int_in k1
    obtain ⟨x2, rfl, _⟩ := int_in k2
    obtain ⟨a, cap, ws, rfl, hrd, hb⟩ := words_in k3
    refine ⟨⟨x0, x1, x2, a, cap, ws⟩, rfl, fun hk => ⟨hrd, hb (fun k hk3 => hk k ?_)⟩⟩
    unfold DataW.weights
    rw [hu]
    exact DataW.weights_mem_each (j := 3) (t := 29) rfl rfl k hk3
end
/-- A deed at a place. -/
def DeedAt (w : World) (gb o : Nat) (d : Deed) : Prop :=
  w.cell? ⟨gb, o, none⟩ = some (.int .i64 d.kind) ∧ w.cell? ⟨gb, o + 1, none⟩ = some (.int .i64 d.fr) ∧ w.cell? ⟨gb, o + 2, none⟩ = some (.int .i64 d.tt) ∧ w.cell? ⟨gb, o + 3, none⟩ = some (.slice d.a d.ws.length d.cap) ∧ DeedOk w d
theorem DeedAt.below {w w' : World} {gb o : Nat} {d : Deed} (h : DeedAt w gb o d) (hb : Below w.heap.size w w') : DeedAt w' gb o d := by
  obtain ⟨a0, a1, a2, a3, a4, a5⟩ := h
  exact ⟨(hb.cell (cell_lt a0)).trans a0, (hb.cell (cell_lt a1)).trans a1, (hb.cell (cell_lt a2)).trans a2, (hb.cell (cell_lt a3)).trans a3, a4.below hb, a5⟩
/-- A slice at a0 holds so many deeds. -/
def DeedsAt (w : World) (a0 : Option Addr) (len : Nat) : Prop := ∀ j, j < len → ∃ gb off d, a0 = some ⟨gb, off, none⟩ ∧ DeedAt w gb (off + j * 4) d
theorem DeedsAt.below {w w' : World} {a0 : Option Addr} {len : Nat} (h : DeedsAt w a0 len) (hb : Below w.heap.size w w') : DeedsAt w' a0 len := by
  intro j hj
  obtain ⟨gb, off, d, e, hc⟩ := h j hj
  exact ⟨gb, off, d, e, hc.below hb⟩
theorem weights_all {H : Type} {P : Program} {e : TypeId} : ∀ {l : List (DataW H)} {d : DataW H}, d ∈ l → ∀ n ∈ d.weights P e, n ∈ DataW.weightsAll P e l
  | x :: l, d, hd, n, hn => by
    simp only [DataW.weightsAll, List.mem_append]
    rcases List.mem_cons.1 hd with rfl | hd
    · exact Or.inl hn
    · exact Or.inr (weights_all hd n hn)
section
variable {H : Type} {enc : TypeId × Value → H} {w : World} {base : Nat} {held : Bool}
theorem deeds_in {fuel len cap : Nat} {a0 : Option Addr} {x : DataW H × List MemPlace} (h : DataW.trod enc Try.prog w base (fun _ => true) held fuel 22 [.slice a0 len cap] = some x) (hsz : ∀ k ∈ x.1.weights Try.prog 22, k ≤ reachBytes) :
    len ≤ 9223372036854775807 ∧ DeedsAt w a0 len := by
  rcases Go.Deep.open_slice Try.underlying22 h with ⟨h0, _⟩ | ⟨a, len', cap', m, n, D, Pl, hcs, hb, hl1, hm, hmm, hx0, hx⟩
  · simp at h0
    obtain ⟨rfl, rfl, rfl⟩ := h0
    exact ⟨by omega, fun j hj => by omega⟩
  · simp at hcs
    obtain ⟨rfl, rfl, rfl⟩ := hcs
    refine ⟨by unfold maxLen at hm; omega, fun j hj => ?_⟩
    have hlm : len ≤ m := by rw [hmm]; split <;> omega
    have hc : Try.prog.cellsOf 31 = 4 := by kernel_rfl
    obtain ⟨cs', h1, h2⟩ := hx j (by omega)
    obtain ⟨d, rfl, hd⟩ := deed_in h2
    rw [hc] at h1
    obtain ⟨_, hlen, hcell⟩ := World.cells?_some h1
    have hz : ∃ u, w.cell? a = some u := by
      obtain ⟨cs0, z1, _⟩ := hx 0 (by omega)
      rw [hc] at z1
      obtain ⟨_, zl, z2⟩ := World.cells?_some z1
      have z3 := z2 0 (by omega)
      rw [Go.Deep.add_add] at z3
      have z4 : w.cell? a = cs0[0]? := by simpa [Addr.add] using z3
      exact ⟨cs0[0]'(by omega), by rw [z4]; simp⟩
    obtain ⟨gb, off, spot⟩ := a
    obtain ⟨u, hu⟩ := hz
    have hspot : spot = none := by simpa using World.cell?_spot hu
    subst hspot
    have q : ∀ i, i < 4 → w.cell? ⟨gb, off + j * 4 + i, none⟩ = (deedRow d).toList[i]? := by
      intro i hi
      have q := hcell i hi
      rw [Go.Deep.add_add] at q
      simp only [Go.WideShapes.add_plain] at q
      rw [Nat.add_assoc]
      exact q
    refine ⟨gb, off, d, rfl, q 0 (by omega), q 1 (by omega), q 2 (by omega), q 3 (by omega), hd (fun k hk => hsz k ?_)⟩
    rw [hx0]
    unfold DataW.weights
    rw [Try.underlying22]
    refine List.mem_cons_of_mem _ (List.mem_append_left _ (weights_all (d := D j) ?_ k hk))
    exact List.mem_map.2 ⟨j, List.mem_range.2 hj, rfl⟩
end
end Go.Proofs.Ytikeknehkoccpaa
