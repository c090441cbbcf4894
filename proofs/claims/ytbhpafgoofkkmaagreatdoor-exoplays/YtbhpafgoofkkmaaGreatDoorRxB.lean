import Derived.Test.YtbhpafgoofkkmaaGreatDoorRxA
set_option linter.all false
namespace Go.Proofs.YtbhpafgoofkkmaaGreatDoor
open Go.RowKit
theorem ExoAt.keepR {w w' : World} {K c gv : Nat} {L : XL} {S : XS} (h : ExoAt w K L S) (hu : UpdP (En.Its c gv) w w') {r r' : Array Value} (hc : w.heap[c]? = some (.cells r 118)) (hg : w.heap[gv]? = some (.cells r' 3)) (hne : gv ≠ L.eg) : ExoAt w' K L S := by
 obtain ⟨row, hr, _⟩ := h.env.head
 have hno : ∀ {k : Nat} {cs : Array Value} {t : TypeId} {fr : Nat × Nat}, w.heap[k]? = some (.cells cs t fr) → t ≠ 118 → t ≠ 3 → ¬ En.Its c gv k := by
  rintro k cs t fr hk h1 h2 (e | e)
  ·rw [e] at hk; exact heap_apart hk hc h1 rfl
  ·rw [e] at hk; exact heap_apart hk hg h2 rfl
 have hk : ∀ {k : Nat} {cs : Array Value} {t : TypeId} {fr : Nat × Nat}, w.heap[k]? = some (.cells cs t fr) → t ≠ 118 → t ≠ 3 → w'.heap[k]? = some (.cells cs t fr) := fun e h1 h2 => (hu.block _ (lt_of_heap e) (hno e h1 h2)).trans e
 have hv : ¬ En.Its c gv L.eg := by
  rintro (e | e)
  ·exact heap_apart h.env.vec hc (by decide) e
  ·exact hne e.symm
 refine ⟨hk h.head (by decide) (by decide), ker_keep h.mem (fun k hkb => ?_), h.env.keep ((hk hr (by decide) (by decide)).trans hr.symm) (hu.block _ (lt_of_heap h.env.vec) hv), h.ipc.kept (fun k cs t fr e o => hk e (by rcases o with rfl | rfl | rfl <;> decide) (by rcases o with rfl | rfl | rfl <;> decide)),
   h.disk.keepP hu (hno h.disk.head (by decide) (by decide)) (fun k hx => ?_) (fun k hb cur fr e => hno e (by decide) (by decide) hb), h.ne, Nat.le_trans h.lowB hu.size⟩
 ·rcases kb_is h.mem hkb with ⟨es, c', e⟩ | ⟨cs, t, e, o⟩
  ·refine hu.block k (lt_of_heap e) ?_
   rintro (q | q)
   ·rw [q, hc] at e; cases e
   ·rw [q, hg] at e; cases e
  ·exact hu.block k (lt_of_heap e) (hno e (by rcases o with rfl | rfl | rfl | ⟨rfl, _⟩ | rfl <;> decide) (by rcases o with rfl | rfl | rfl | ⟨rfl, _⟩ | rfl <;> decide))
 ·obtain ⟨cs, t, e, o⟩ := xfoot_is h.disk hx
  exact hno e (by rcases o with rfl | rfl | rfl | ⟨rfl, _⟩ <;> decide) (by rcases o with rfl | rfl | rfl | ⟨rfl, _⟩ <;> decide)
theorem exo_neB (b : Nat) (W : World) : (binOp .eql 23 (ptr b) (.pointer none)).run Tryz.prog W = .ok (.bool false) W := by kernel_rfl
def wE : Nat → En.ES
 | 0 => (S0 8 16).E
 | 1 => (S0 8 16).E
 | k + 2 => En.createT (wE (k + 1)) ((k + 1 : Nat) : Int)
def wS (k : Nat) : XS := { S0 8 16 with E := wE k }
def wL : Nat → List Int
 | 0 => []
 | 1 => []
 | k + 2 => En.rcreateL (wL (k + 1)) ((k + 1 : Nat) : Int)
theorem wE_ok (k : Nat) (h1 : 1 ≤ k) (h : k ≤ 3) : En.createR (wE k) (k : Int) = 0 := by
 have : k = 1 ∨ k = 2 ∨ k = 3 := by omega
 rcases this with rfl | rfl | rfl
 ·exact (by kernel_rfl : En.createR (wE 1) ((1 : Nat) : Int) = 0)
 ·exact (by kernel_rfl : En.createR (wE 2) ((2 : Nat) : Int) = 0)
 ·exact (by kernel_rfl : En.createR (wE 3) ((3 : Nat) : Int) = 0)
theorem wL_len (k : Nat) (h : k ≤ 4) : (wL k).length ≤ 100 := by
 have : k = 0 ∨ k = 1 ∨ k = 2 ∨ k = 3 ∨ k = 4 := by omega
 rcases this with rfl | rfl | rfl | rfl | rfl <;> decide
theorem wE_next (k : Nat) (h1 : 1 ≤ k) : wE (k + 1) = En.createT (wE k) (k : Int) := by
 obtain ⟨j, rfl⟩ : ∃ j, k = j + 1 := ⟨k - 1, by omega⟩
 rfl
theorem wL_next (k : Nat) (h1 : 1 ≤ k) : wL (k + 1) = En.rcreateL (wL k) (k : Int) := by
 obtain ⟨j, rfl⟩ : ∃ j, k = j + 1 := ⟨k - 1, by omega⟩
 rfl
end Go.Proofs.YtbhpafgoofkkmaaGreatDoor
