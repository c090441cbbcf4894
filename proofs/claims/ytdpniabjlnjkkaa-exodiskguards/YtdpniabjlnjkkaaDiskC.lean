/- That 'awake' (chapter 3's examples) answers true. -/
import Derived.Test.YtdpniabjlnjkkaaDiskB
namespace Go.Proofs.Ytdpniabjlnjkkaa
open Go.RowKit
namespace Di
set_option linter.unusedVariables false

theorem URow.is {M : Nat} {w : World} {v : Value} {xs : List Int} (h : URow M w v xs) : ∃ a cap, v = .slice a xs.length cap := by
  obtain ⟨a, cap, e, _⟩ := h
  exact ⟨a, cap, e⟩
theorem URow.cell {M g n cap : Nat} {w : World} {xs : List Int} (h : URow M w (.slice (some ⟨g, 0, none⟩) n cap) xs) (j : Nat) (hj : j < xs.length) : w.cell? ⟨g, j, none⟩ = some (.int .u64 (xs.getD j 0)) := by
  obtain ⟨a, c, e, _, _, hf⟩ := h
  obtain ⟨g', cur, e2, _, hh, hc⟩ := hf (by intro e; rw [e] at hj; simp at hj)
  simp only [Value.slice.injEq] at e
  obtain ⟨e3, _⟩ := e
  rw [← e3] at e2
  simp only [Option.some.injEq, Addr.mk.injEq] at e2
  obtain ⟨rfl, _⟩ := e2
  rw [cell_of_heap hh]
  exact hc j _ (by simp [hj])
theorem UpdP.below2 {b g B : Nat} {w w' : World} (h : UpdP (fun k => k = b ∨ k = g) w w') (h1 : B ≤ b) (h2 : B ≤ g) (hs : B ≤ w.heap.size) : Below B w w' :=
  h.below (fun k hk => by rcases hk with rfl | rfl <;> assumption) hs

theorem cnt32 : cnt 32 = 32 := by decide
theorem cnt31 : cnt 31 = 31 := by decide
theorem blk32 (v : Int) : (blk v (cnt 32)).length = 32 := by rw [blk_len, cnt32]
theorem splice_frame (vs ws : List Int) (n f : Nat) (hl : vs.length = n * 32) (hf : f < n) (hw : ws.length = 32) : frameOf (splice vs (f * 32) ws) f = ws := by
  rw [frame_splice vs ws n f f hl hf hf hw, if_pos rfl]

end Di
end Go.Proofs.Ytdpniabjlnjkkaa
