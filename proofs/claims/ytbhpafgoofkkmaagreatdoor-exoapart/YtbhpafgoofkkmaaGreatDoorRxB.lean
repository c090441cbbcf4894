/- januslaw13's worlds: both kernels with environments 1 to 3. -/
import Derived.Test.YtbhpafgoofkkmaaGreatDoorRxA
namespace Go.Proofs.YtbhpafgoofkkmaaGreatDoor
open Go.RowKit
set_option linter.unusedVariables false

/-- The exokernel stays while the reference's environments change. -/
theorem ExoAt.keepR {w w' : World} {K c gv : Nat} {L : XL} {S : XS} (h : ExoAt w K L S) (hu : UpdP (En.Its c gv) w w') {r r' : Array Value} (hc : w.heap[c]? = some (.cells r 118)) (hg : w.heap[gv]? = some (.cells r' 3)) (hne : gv ≠ L.eg) : ExoAt w' K L S := by
  obtain ⟨row, hr, _⟩ := h.env.head
  have hno : ∀ {k : Nat} {cs : Array Value} {t : TypeId} {fr : Nat × Nat}, w.heap[k]? = some (.cells cs t fr) → t ≠ 118 → t ≠ 3 → ¬ En.Its c gv k := by
    rintro k cs t fr hk h1 h2 (e | e)
    · rw [e] at hk; exact heap_apart hk hc h1 rfl
    · rw [e] at hk; exact heap_apart hk hg h2 rfl
  have hk : ∀ {k : Nat} {cs : Array Value} {t : TypeId} {fr : Nat × Nat}, w.heap[k]? = some (.cells cs t fr) → t ≠ 118 → t ≠ 3 → w'.heap[k]? = some (.cells cs t fr) := fun e h1 h2 => (hu.block _ (lt_of_heap e) (hno e h1 h2)).trans e
  have hv : ¬ En.Its c gv L.eg := by
    rintro (e | e)
    · exact heap_apart h.env.vec hc (by decide) e
    · exact hne e.symm
  refine ⟨hk h.head (by decide) (by decide), ker_keep h.mem (fun k hkb => ?_), h.env.keep ((hk hr (by decide) (by decide)).trans hr.symm) (hu.block _ (lt_of_heap h.env.vec) hv), h.ipc.kept (fun k cs t fr e o => hk e (by rcases o with rfl | rfl | rfl <;> decide) (by rcases o with rfl | rfl | rfl <;> decide)),
    h.disk.keepP hu (hno h.disk.head (by decide) (by decide)) (fun k hx => ?_) (fun k hb cur fr e => hno e (by decide) (by decide) hb), h.ne, Nat.le_trans h.lowB hu.size⟩
  · rcases kb_is h.mem hkb with ⟨es, c', e⟩ | ⟨cs, t, e, o⟩
    · refine hu.block k (lt_of_heap e) ?_
      rintro (q | q)
      · rw [q, hc] at e; cases e
      · rw [q, hg] at e; cases e
    · exact hu.block k (lt_of_heap e) (hno e (by rcases o with rfl | rfl | rfl | ⟨rfl, _⟩ | rfl <;> decide) (by rcases o with rfl | rfl | rfl | ⟨rfl, _⟩ | rfl <;> decide))
  · obtain ⟨cs, t, e, o⟩ := xfoot_is h.disk hx
    exact hno e (by rcases o with rfl | rfl | rfl | ⟨rfl, _⟩ <;> decide) (by rcases o with rfl | rfl | rfl | ⟨rfl, _⟩ <;> decide)

theorem exo_neB (b : Nat) (W : World) : (binOp .eql 23 (ptr b) (.pointer none)).run Tryz.prog W = .ok (.bool false) W := by kernel_rfl
/-- Who lives in turn k of making the worlds. -/
def wE : Nat → En.ES
  | 0 => (S0 8 16).E
  | 1 => (S0 8 16).E
  | k + 2 => En.createT (wE (k + 1)) ((k + 1 : Nat) : Int)
def wS (k : Nat) : XS := { S0 8 16 with E := wE k }
def wL : Nat → List Int
  | 0 => []
  | 1 => []
  | k + 2 => En.rcreateL (wL (k + 1)) ((k + 1 : Nat) : Int)
theorem wE_ok (k : Nat) (h1 : 1 ≤ k) (h : k ≤ 3) : En.createR (wE k) (k : Int) = 0 := by
  have : k = 1 ∨ k = 2 ∨ k = 3 := by omega
  rcases this with rfl | rfl | rfl
  · exact (by kernel_rfl : En.createR (wE 1) ((1 : Nat) : Int) = 0)
  · exact (by kernel_rfl : En.createR (wE 2) ((2 : Nat) : Int) = 0)
  · exact (by kernel_rfl : En.createR (wE 3) ((3 : Nat) : Int) = 0)
theorem wL_len (k : Nat) (h : k ≤ 4) : (wL k).length ≤ 100 := by
  have : k = 0 ∨ k = 1 ∨ k = 2 ∨ k = 3 ∨ k = 4 := by omega
  rcases this with rfl | rfl | rfl | rfl | rfl <;> decide
theorem wE_next (k : Nat) (h1 : 1 ≤ k) : wE (k + 1) = En.createT (wE k) (k : Int) := by
  obtain ⟨j, rfl⟩ : ∃ j, k = j + 1 := ⟨k - 1, by omega⟩
  rfl
theorem wL_next (k : Nat) (h1 : 1 ≤ k) : wL (k + 1) = En.rcreateL (wL k) (k : Int) := by
  obtain ⟨j, rfl⟩ : ∃ j, k = j + 1 := ⟨k - 1, by omega⟩
  rfl
theorem RxAt.keepE {w w' : World} {X B c gv eb eg : Nat} {Le V : List Int} (h : RxAt w X B c gv Le V) (hu : UpdP (En.Mine eb eg) w w') (h1 : eb < B) (h2 : eg < B) (h3 : B ≤ X) : RxAt w' X B c gv Le V := by
  have hk : ∀ k, B ≤ k → k < w.heap.size → w'.heap[k]? = w.heap[k]? := fun k hb hl => hu.block k hl (by rintro (e | e) <;> omega)
  obtain ⟨a, b, p, hh⟩ := h.head
  obtain ⟨al, cl, cv, au, cu, hr⟩ := h.env
  exact ⟨⟨a, b, p, (hk X h3 (lt_of_heap hh)).trans hh⟩, ⟨al, cl, cv, au, cu, hr.keep hk⟩, h.low⟩
set_option maxRecDepth 100000 in
set_option maxHeartbeats 2000000 in
theorem worlds_at (w : World) :
    Calls Tryz.prog 8 #[] w fun x w' => ∃ K L X, x = .returned (.tuple #[ptr K, ptr X, .bool true]) ∧ ExoAt w' K L (wS 4) ∧ Below w.heap.size w w' ∧ w.heap.size ≤ K ∧ XLow L w.heap.size := by
  have hN := xonew_at 8 16 w (by omega) (by omega) (by omega) (by omega)
  go_enter Tryz.func8, Tryz.ntmps8
  go_wp2_with fail
  refine hN.mono ?_
  rintro x w1 ⟨K, L, rfl, hE1, hb1, hK1, hL1⟩
  have hR := r13_new 8 16 w1 (by omega) (by omega) (by omega) (by omega)
  have HE1 : Hid (ExoAt w1 K L (wS 1)) := hE1
  have HB1 : Hid _ := hb1
  have HL : Hid _ := And.intro hK1 hL1
  have HEV : Hid (L.eb < w1.heap.size ∧ L.eg < w1.heap.size) := by
    obtain ⟨row, hr, _⟩ := hE1.env.head
    exact ⟨lt_of_heap hr, lt_of_heap hE1.env.vec⟩
  clear hN hE1 hb1 hK1 hL1
  go_wp2_with fail
  refine hR.mono ?_
  rintro x w2 ⟨X, c, gv, rfl, hX, hb2, hc, hg, hcX⟩
  have q1 := exo_neB K
  have HX : Hid _ := hX
  have HXc : Hid (c ≤ X) := hcX
  have HB2s : Hid (w.heap.size ≤ w1.heap.size) := HB1.out.size
  have HE2 : Hid (ExoAt w2 K L (wS 1)) := HE1.out.below hb2
  have HB2 : Hid (Below w.heap.size w w2) := HB1.out.trans (hb2.mono HB1.out.size)
  have HC : Hid (w1.heap.size ≤ c ∧ w1.heap.size ≤ gv) := ⟨hc, hg⟩
  clear hR hX hb2 HE1 HB1 hc hg
  go_wp2_with fail
  go_loopw [5] (fun s wr => ∃ (k : Nat), 1 ≤ k ∧ k ≤ 4 ∧ s = .int .i64 k ∧ Hid (ExoAt wr K L (wS k)) ∧ Hid (RxAt wr X c c gv (wL k) (List.replicate 16 (-1))) ∧ Hid (Below w.heap.size w wr)) (fun s _ => 4 - (intOf s).toNat)
  case atStart => exact ⟨1, by omega, by omega, rfl, HE2, HX, HB2⟩
  case round =>
    clear HE2 HX HB2
    obtain ⟨k, hk1, hk4, rfl, HE, HX, HB⟩ := hrel
    by_cases hlt : k ≤ 3
    · have g0 : decide ((k : Int) ≤ 3) = true := decide_eq_true (by omega)
      have ik : (k : Int) ≤ 3 := by omega
      have hC := xcreate_at HE.out (k : Int)
      rw [show (wS k).E = wE k from rfl, wE_ok k hk1 hlt] at hC
      go_wp2_with fail
      refine hC.mono ?_
      rintro x w3 ⟨rfl, hE3, hu3⟩
      have hX3 := RxAt.keepE HX.out hu3 (by have := HEV.out.1; have := HC.out.1; omega) (by have := HEV.out.2; have := HC.out.1; omega) HXc.out
      obtain ⟨a, b, p, hh⟩ := hX3.head
      obtain ⟨al, cl, cv, au, cu, hr⟩ := hX3.env
      have x2 : w3.cell? ⟨X, 2, none⟩ = some (ptr c) := by rw [cell_of_heap hh]; rfl
      have hD := En.rcreate_at (k : Int) w3 hr (wL_len k hk4)
      have HE3 : Hid (ExoAt w3 K L (wS (k + 1))) := by
        show ExoAt w3 K L { S0 8 16 with E := wE (k + 1) }
        rw [wE_next k hk1]
        exact hE3
      have HX3 : Hid _ := hX3
      have HB3 : Hid (Below w.heap.size w w3) := HB.out.trans (hu3.below (fun k hk => by rcases hk with e | e; rw [e]; exact HL.out.2.e; rw [e]; exact HL.out.2.g) HB.out.size)
      have HHC : Hid _ := hr.head
      have HHG : Hid _ := hr.vec
      clear hC hE3 hu3 hX3 hh hr HE HX HB
      go_wp2_with fail
      refine hD.mono ?_
      rintro x w4 ⟨rfl, hR4, hu4⟩
      have HE4 : Hid (ExoAt w4 K L (wS (k + 1))) := by
        obtain ⟨row, hg, _⟩ := HHG.out
        exact ExoAt.keepR HE3.out hu4 HHC.out hg (by have := HEV.out.2; have := HC.out.2; omega)
      have HB4 : Hid (Below w.heap.size w w4) := HB3.out.trans (hu4.below (fun k hk => by have := HB3.out.size; have := HC.out; have := HB2s.out; rcases hk with e | e <;> omega) HB3.out.size)
      have HX4 : Hid (RxAt w4 X c c gv (wL (k + 1)) (List.replicate 16 (-1))) := by
        obtain ⟨a, b, p, hh⟩ := HX3.out.head
        refine ⟨⟨a, b, p, (hu4.block X (lt_of_heap hh) (by rintro (e | e); exact HX3.out.low.1 e; exact HX3.out.low.2 e)).trans hh⟩, ?_, HX3.out.low⟩
        rw [wL_next k hk1]
        exact hR4
      clear hD hR4 hu4 HE3 HX3 HB3 x2 HHC HHG
      go_wp2_with fail
      go_roundw
      case rel => exact ⟨k + 1, by omega, by omega, by go_num, HE4, HX4, HB4⟩
      case measure => simp [intOf]; omega
    · obtain rfl : k = 4 := by omega
      go_wp2
      go_ret3
      exact ⟨K, L, X, rfl, HE.out, HB.out, HL.out.1, HL.out.2⟩
end Go.Proofs.YtbhpafgoofkkmaaGreatDoor
