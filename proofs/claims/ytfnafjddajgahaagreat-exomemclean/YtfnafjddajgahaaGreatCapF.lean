/- anyMeets: has anybody one for some of the same? -/
import Derived.Test.YtfnafjddajgahaaGreatCapE
namespace Go.Proofs.YtfnafjddajgahaaGreat
open Go.RowKit
namespace Ca
set_option linter.unusedVariables false

def anyM (T : Tab) (y : Cp) : Bool := (List.range 768).any (fun j => meetsB (T j).x y)
theorem anyM_hit {T : Tab} {y : Cp} {j : Nat} (hj : j < 768) (h : meetsB (T j).x y = true) : anyM T y = true := by
  unfold anyM
  rw [List.any_eq_true]
  exact ⟨j, by simpa using hj, h⟩
theorem anyM_miss {T : Tab} {y : Cp} (h : ∀ j, j < 768 → meetsB (T j).x y = false) : anyM T y = false := by
  unfold anyM
  rw [List.any_eq_false]
  intro j hj
  rw [h j (by simpa using hj)]
  simp

theorem keep8 {w w' : World} {p0 p1 p2 p3 q0 q1 q2 q3 : Addr} {v0 v1 v2 v3 u0 u1 u2 u3 : Value}
    (h : (w.cell? p0 = some v0 ∧ w.cell? p1 = some v1 ∧ w.cell? p2 = some v2 ∧ w.cell? p3 = some v3) ∧ w.cell? q0 = some u0 ∧ w.cell? q1 = some u1 ∧ w.cell? q2 = some u2 ∧ w.cell? q3 = some u3) (hb : Below w.heap.size w w') :
    (w'.cell? p0 = some v0 ∧ w'.cell? p1 = some v1 ∧ w'.cell? p2 = some v2 ∧ w'.cell? p3 = some v3) ∧ w'.cell? q0 = some u0 ∧ w'.cell? q1 = some u1 ∧ w'.cell? q2 = some u2 ∧ w'.cell? q3 = some u3 := by
  obtain ⟨⟨a0, a1, a2, a3⟩, b0, b1, b2, b3⟩ := h
  exact ⟨⟨(hb.cell (cell_lt a0)).trans a0, (hb.cell (cell_lt a1)).trans a1, (hb.cell (cell_lt a2)).trans a2, (hb.cell (cell_lt a3)).trans a3⟩, (hb.cell (cell_lt b0)).trans b0, (hb.cell (cell_lt b1)).trans b1, (hb.cell (cell_lt b2)).trans b2, (hb.cell (cell_lt b3)).trans b3⟩

set_option maxRecDepth 100000 in
set_option maxHeartbeats 4000000 in
theorem anyMeets_at (b : Nat) (T : Tab) (y : Cp) (w : World) (h : CapsAt w b T) (hS : Sanes T) (hy : Sane y) :
    Calls Tryz.prog 108 #[.pointer (some ⟨b, 0, none⟩), .agg (cpRow y)] w fun e w' => e = .returned (.bool (anyM T y)) ∧ Below w.heap.size w w' := by
  obtain ⟨W, hW⟩ : ∃ W, W = w.alloc (.cells (cpRow y) 95) := ⟨_, rfl⟩
  have HB : Hid (Below w.heap.size w W) := by rw [hW]; exact below_alloc _ _
  have HC : Hid (CapsAt W b T) := h.below HB.out
  have HY : Hid (W.heap[w.heap.size]? = some (.cells (cpRow y) 95)) := by rw [hW]; exact heap_alloc_new _ _
  have HS : Hid _ := hS
  have HZ : Hid _ := hy
  have hlt := h.lt
  clear h hS hy
  obtain ⟨y0, y1, y2, y3⟩ := y
  dsimp only [cpRow] at *
  go_enter Tryz.func108, Tryz.ntmps108
  go_wp2
  rw [← hW]
  clear hW
  go_loopw [7] (fun s wr => ∃ (m : Nat), m ≤ 12 ∧ s = .int .i64 m ∧ Hid (∀ j, j < m * 64 → meetsB (T j).x ⟨y0, y1, y2, y3⟩ = false) ∧ Below W.heap.size W wr) (fun s _ => 12 - (intOf s).toNat)
  case atStart => exact ⟨0, by omega, rfl, (show Hid _ from fun j hj => absurd hj (by omega)), Below.refl _ _⟩
  case round =>
    obtain ⟨m, hm', rfl, HN, hb⟩ := hrel
    by_cases hm : m < 12
    · have H1 : Hid _ := hb
      clear hb
      have gm : decide ((m : Int) < 12) = true := decide_eq_true (by omega)
      go_wp2
      go_loopw [10] (fun s wr => ∃ (k : Nat), k ≤ 64 ∧ s = .int .i64 k ∧ Hid (∀ j, j < m * 64 + k → meetsB (T j).x ⟨y0, y1, y2, y3⟩ = false) ∧ Below W.heap.size W wr) (fun s _ => 64 - (intOf s).toNat)
      case atStart => exact ⟨0, by omega, rfl, HN, H1.out⟩
      case round =>
        clear H1 HN
        obtain ⟨s, hs', rfl, HN, hb⟩ := hrel
        by_cases hs : s < 64
        · obtain ⟨d0, d1, d2, d3⟩ := cap_cells (x := ⟨y0, y1, y2, y3⟩) ((hb.block _ (lt_of_heap HY.out)).trans HY.out)
          dsimp only at d0 d1 d2 d3
          obtain ⟨G, hG⟩ : ∃ G, T (m * 64 + s) = G := ⟨_, rfl⟩
          obtain ⟨⟨c0, c1, c2, c3⟩, _, _⟩ := (HC.out.below hb).cells hm hs hG
          have hcall := fun V => meets_at G.x ⟨y0, y1, y2, y3⟩ V (by rw [← hG]; exact HS.out _ (by omega)) HZ.out
          have HT : Hid (meetsB G.x ⟨y0, y1, y2, y3⟩ = true → anyM T ⟨y0, y1, y2, y3⟩ = true) := by
            intro hq
            exact anyM_hit (j := m * 64 + s) (by omega) (by rw [hG]; exact hq)
          have HM : Hid (meetsB G.x ⟨y0, y1, y2, y3⟩ = false → ∀ j, j < m * 64 + (s + 1) → meetsB (T j).x ⟨y0, y1, y2, y3⟩ = false) := by
            intro hf j hj
            by_cases e : j = m * 64 + s
            · rw [e, hG]; exact hf
            · exact HN.out j (by omega)
          clear hG HN
          obtain ⟨⟨x0, x1, x2, x3⟩, xe, xq⟩ := G
          dsimp only [cpRow] at *
          generalize meetsB ⟨x0, x1, x2, x3⟩ ⟨y0, y1, y2, y3⟩ = B at *
          have hS0 : (wr.cell? ⟨b, m * 384 + s * 6, none⟩ = some (.int .i64 x0) ∧ wr.cell? ⟨b, m * 384 + s * 6 + 1, none⟩ = some (.int .i64 x1) ∧ wr.cell? ⟨b, m * 384 + s * 6 + 2, none⟩ = some (.int .i64 x2) ∧ wr.cell? ⟨b, m * 384 + s * 6 + 3, none⟩ = some (.int .i64 x3)) ∧
            wr.cell? ⟨w.heap.size, 0, none⟩ = some (.int .i64 y0) ∧ wr.cell? ⟨w.heap.size, 1, none⟩ = some (.int .i64 y1) ∧ wr.cell? ⟨w.heap.size, 2, none⟩ = some (.int .i64 y2) ∧ wr.cell? ⟨w.heap.size, 3, none⟩ = some (.int .i64 y3) := ⟨⟨c0, c1, c2, c3⟩, d0, d1, d2, d3⟩
          go_wp2
          have im : (m : Int) < 12 := by omega
          have is : (s : Int) < 64 := by omega
          go_region_held3 (fun w' => (w'.cell? ⟨b, m * 384 + s * 6, none⟩ = some (.int .i64 x0) ∧ w'.cell? ⟨b, m * 384 + s * 6 + 1, none⟩ = some (.int .i64 x1) ∧ w'.cell? ⟨b, m * 384 + s * 6 + 2, none⟩ = some (.int .i64 x2) ∧ w'.cell? ⟨b, m * 384 + s * 6 + 3, none⟩ = some (.int .i64 x3)) ∧
            w'.cell? ⟨w.heap.size, 0, none⟩ = some (.int .i64 y0) ∧ w'.cell? ⟨w.heap.size, 1, none⟩ = some (.int .i64 y1) ∧ w'.cell? ⟨w.heap.size, 2, none⟩ = some (.int .i64 y2) ∧ w'.cell? ⟨w.heap.size, 3, none⟩ = some (.int .i64 y3))
            (first | go_keep | (exact hS0) | (exact hS1))
            (first | (go_at_call 114; refine (hcall _).mono ?_; rintro e wq ⟨rfl, hq⟩; have hS1 := keep8 (w := wr.drew) hS0 hq))
          all_goals
            have hbq : Below W.heap.size W wq := hb.trans (((Below.refl _ wr).drew.trans hq).mono hb.size)
            clear hS0 c0 c1 c2 c3 d0 d1 d2 d3 hcall hS1 hq
            cases B with
            | true =>
              have HF := HT.out rfl
              clear HT HM
              go_wp2
              go_ret
              exact ⟨by rw [HF]; rfl, HB.out.trans (hbq.mono HB.out.size)⟩
            | false =>
              have HF : Hid _ := HM.out rfl
              clear HT HM
              go_wp2
              go_roundw
              case rel =>
                exact ⟨s + 1, by omega, by go_num, HF, hbq⟩
              case measure => simp [intOf]; omega
        · obtain rfl : s = 64 := by omega
          go_wp2
          go_roundw
          case rel => exact ⟨m + 1, by omega, by go_num, by rw [show (m + 1) * 64 = m * 64 + 64 from by omega]; exact HN, hb⟩
          case measure => simp [intOf]; omega
    · obtain rfl : m = 12 := by omega
      have HF : Hid (anyM T ⟨y0, y1, y2, y3⟩ = false) := anyM_miss (fun j hj => HN.out j (by omega))
      go_wp2
      go_ret
      exact ⟨by rw [HF.out]; rfl, HB.out.trans (hb.mono HB.out.size)⟩
end Ca
end Go.Proofs.YtfnafjddajgahaaGreat
