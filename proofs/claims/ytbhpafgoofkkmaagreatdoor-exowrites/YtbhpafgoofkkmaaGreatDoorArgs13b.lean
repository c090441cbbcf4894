import Derived.Test.YtbhpafgoofkkmaaGreatDoorArgs13
set_option linter.all false
namespace Go.Proofs.YtbhpafgoofkkmaaGreatDoor
open Go.ChangeShapes Go.WideShapes Go.ChangeAt Go.RowKit Go.Lib Go.Joins
def AskAt (w : World) (gb o : Nat) (d : Ask) : Prop :=
 w.cell? ⟨gb, o, none⟩ = some (.int .i64 d.e) ∧ w.cell? ⟨gb, o + 1, none⟩ = some (.slice d.a d.ws.length d.cap) ∧ AskOk w d
theorem AskAt.below {w w' : World} {gb o : Nat} {d : Ask} (h : AskAt w gb o d) (hb : Below w.heap.size w w') : AskAt w' gb o d := by
 obtain ⟨a0, a1, a2⟩ := h
 exact ⟨(hb.cell (cell_lt a0)).trans a0, (hb.cell (cell_lt a1)).trans a1, a2.below hb⟩
def AsksAt (w : World) (a0 : Option Addr) (len : Nat) : Prop := ∀ j, j < len → ∃ gb off d, a0 = some ⟨gb, off, none⟩ ∧ AskAt w gb (off + j * 2) d
theorem AsksAt.below {w w' : World} {a0 : Option Addr} {len : Nat} (h : AsksAt w a0 len) (hb : Below w.heap.size w w') : AsksAt w' a0 len := by
 intro j hj
 obtain ⟨gb, off, d, e, hc⟩ := h j hj
 exact ⟨gb, off, d, e, hc.below hb⟩
section
variable {H : Type} {enc : TypeId × Value → H} {w : World} {base : Nat} {held : Bool}
set_option maxRecDepth 100000 in
theorem asks_in {fuel len cap : Nat} {a0 : Option Addr} {x : DataW H × List MemPlace} (h : DataW.trod enc Tryz.prog w base (fun _ => true) held fuel 22 [.slice a0 len cap] = some x) :
  len ≤ 9223372036854775807 ∧ AsksAt w a0 len := by
 rcases Go.Deep.open_slice Tryz.underlying22 h with ⟨h0, _⟩ | ⟨a, len', cap', m, n, D, Pl, hcs, hb, hl1, hm, hmm, hx0, hx⟩
 ·simp at h0
  obtain ⟨rfl, rfl, rfl⟩ := h0
  exact ⟨by omega, fun j hj => by omega⟩
 ·simp at hcs
  obtain ⟨rfl, rfl, rfl⟩ := hcs
  refine ⟨by unfold maxLen at hm; omega, fun j hj => ?_⟩
  have hlm : len ≤ m := by rw [hmm]; split <;> omega
  have hc : Tryz.prog.cellsOf 32 = 2 := by kernel_rfl
  obtain ⟨cs', h1, h2⟩ := hx j (by omega)
  obtain ⟨d, rfl, hd, _⟩ := ask_in h2
  rw [hc] at h1
  obtain ⟨_, hlen, hcell⟩ := World.cells?_some h1
  have hz : ∃ u, w.cell? a = some u := by
   obtain ⟨cs0, z1, _⟩ := hx 0 (by omega)
   rw [hc] at z1
   obtain ⟨_, zl, z2⟩ := World.cells?_some z1
   have z3 := z2 0 (by omega)
   rw [Go.Deep.add_add] at z3
   have z4 : w.cell? a = cs0[0]? := by simpa [Addr.add] using z3
   exact ⟨cs0[0]'(by omega), by rw [z4]; simp⟩
  obtain ⟨gb, off, spot⟩ := a
  obtain ⟨u, hu⟩ := hz
  have hspot : spot = none := by simpa using World.cell?_spot hu
  subst hspot
  have q : ∀ i, i < 2 → w.cell? ⟨gb, off + j * 2 + i, none⟩ = (askRow d).toList[i]? := by
   intro i hi
   have q := hcell i hi
   rw [Go.Deep.add_add] at q
   simp only [Go.WideShapes.add_plain] at q
   rw [Nat.add_assoc]
   exact q
  exact ⟨gb, off, d, rfl, q 0 (by omega), q 1 (by omega), hd⟩
end
end Go.Proofs.YtbhpafgoofkkmaaGreatDoor
