/- handOver: those made of one are made of another one. -/
import Derived.Test.YtfnafjddajgahaaGreatCapD
import Derived.BigQuiet
import Derived.Deep.QuietTactic
namespace Go.Proofs.YtfnafjddajgahaaGreat
open Go.RowKit
namespace Ca
set_option linter.unusedVariables false

/-- Is it made of that one? -/
def ofB (h : Hd) (pe ps : Int) : Bool := h.e == pe && h.s == ps
theorem place_eql (a b c d : Int) (W : World) : (binOp .eql 115 (.agg #[.int .i64 a, .int .i64 b]) (.agg #[.int .i64 c, .int .i64 d])).run Tryz.prog W = .ok (.bool (a == c && b == d)) W := by
  by_cases h0 : a = c <;> by_cases h1 : b = d <;> (try subst h0) <;> (try subst h1) <;> go_simp <;> simp_all
/-- The first k slots handed over. -/
def hoTo (T : Tab) (pe ps qe qs : Int) (k : Nat) : Tab := fun j => if j < k ∧ ofB (T j) pe ps = true then ⟨(T j).x, qe, qs⟩ else T j
theorem hoTo_zero (T : Tab) (pe ps qe qs : Int) : hoTo T pe ps qe qs 0 = T := by
  funext j
  simp [hoTo]
theorem hoTo_at (T : Tab) (pe ps qe qs : Int) (k : Nat) : hoTo T pe ps qe qs k k = T k := by simp [hoTo]
theorem hoTo_hit {T : Tab} {pe ps qe qs : Int} {k : Nat} (h : ofB (T k) pe ps = true) : (hoTo T pe ps qe qs k).set k ⟨(T k).x, qe, qs⟩ = hoTo T pe ps qe qs (k + 1) := by
  funext j
  by_cases hj : j = k
  · subst hj
    simp [Tab.set, hoTo, h]
  · have : j < k + 1 ↔ j < k := by omega
    simp [Tab.set, hj, hoTo, this]
theorem hoTo_miss {T : Tab} {pe ps qe qs : Int} {k : Nat} (h : ofB (T k) pe ps = false) : hoTo T pe ps qe qs k = hoTo T pe ps qe qs (k + 1) := by
  funext j
  by_cases hj : j = k
  · subst hj
    simp [hoTo, h]
  · have : j < k + 1 ↔ j < k := by omega
    simp [hoTo, this]
theorem CapsAt.put2 {w : World} {b : Nat} {T : Tab} (h : CapsAt w b T) {j o : Nat} (hj : j < 768) (ho : o = j * 6) (e s : Int) (x : Cp) (hx : (T j).x = x) :
    CapsAt ((w.setCell ⟨b, o + 4, none⟩ (.int .i64 e)).setCell ⟨b, o + 5, none⟩ (.int .i64 s)) b (T.set j ⟨x, e, s⟩) := by
  subst hx
  have h1 := h.set (k := 4) hj (by omega) (o := o + 4) (by omega) e ⟨(T j).x, e, (T j).s⟩ rfl (fun i hi hne => by
    obtain rfl | rfl | rfl | rfl | rfl : i = 0 ∨ i = 1 ∨ i = 2 ∨ i = 3 ∨ i = 5 := by omega
    all_goals rfl)
  have h2 := h1.set (k := 5) hj (by omega) (o := o + 5) (by omega) s ⟨(T j).x, e, s⟩ rfl (fun i hi hne => by
    rw [Tab.set_same]
    obtain rfl | rfl | rfl | rfl | rfl : i = 0 ∨ i = 1 ∨ i = 2 ∨ i = 3 ∨ i = 4 := by omega
    all_goals rfl)
  refine cast (congrArg (CapsAt _ b) ?_) h2
  funext i
  by_cases hi : i = j <;> simp [Tab.set, hi]
theorem CapsAt.drewN {w : World} {b : Nat} {T : Tab} (h : CapsAt w b T) (q : Nat) : CapsAt (w.drewN q) b T := h.below (below_drewN (Below.refl _ _) q)
theorem _root_.Go.Proofs.YtfnafjddajgahaaGreat.Upd.drewN {b : Nat} (w : World) (q : Nat) : Upd b w (w.drewN q) := Upd.of_below (below_drewN (Below.refl _ _) q)

set_option maxRecDepth 100000 in
set_option maxHeartbeats 4000000 in
theorem handOver_at (b : Nat) (T : Tab) (pe ps qe qs : Int) (w : World) (h : CapsAt w b T) :
    Calls Tryz.prog 107 #[.pointer (some ⟨b, 0, none⟩), .agg #[.int .i64 pe, .int .i64 ps], .agg #[.int .i64 qe, .int .i64 qs]] w fun e w' => e = .returned (.tuple #[]) ∧ CapsAt w' b (hoTo T pe ps qe qs 768) ∧ Upd b w w' := by
  obtain ⟨W, hW⟩ : ∃ W, W = (w.alloc (.cells #[.int .i64 pe, .int .i64 ps] 115)).alloc (.cells #[.int .i64 qe, .int .i64 qs] 115) := ⟨_, rfl⟩
  have HB : Hid (Below w.heap.size w W) := by rw [hW]; exact below_alloc2 _ _ _
  have HC : Hid (CapsAt W b T) := h.below HB.out
  have HP : Hid (W.heap[w.heap.size]? = some (.cells #[.int .i64 pe, .int .i64 ps] 115)) := by rw [hW]; exact (Below.heap_alloc _ _ _ (by simp)).trans (heap_alloc_new _ _)
  have HQ : Hid (W.heap[w.heap.size + 1]? = some (.cells #[.int .i64 qe, .int .i64 qs] 115)) := by
    have := heap_alloc_new (w.alloc (.cells #[.int .i64 pe, .int .i64 ps] 115)) (.cells #[.int .i64 qe, .int .i64 qs] 115)
    rw [World.size_alloc] at this
    rw [hW]
    exact this
  have hlt := h.lt
  clear h
  go_enter Tryz.func107, Tryz.ntmps107
  go_wp2
  rw [← hW]
  clear hW
  go_loopw [8] (fun s wr => ∃ (m : Nat), m ≤ 12 ∧ s = .int .i64 m ∧ CapsAt wr b (hoTo T pe ps qe qs (m * 64)) ∧ Upd b W wr) (fun s _ => 12 - (intOf s).toNat)
  case atStart => exact ⟨0, by omega, rfl, by rw [Nat.zero_mul, hoTo_zero]; exact HC.out, Upd.refl _ _⟩
  case round =>
    obtain ⟨m, hm', rfl, hC, hU⟩ := hrel
    by_cases hm : m < 12
    · have H0 : Hid _ := hC
      have H1 : Hid _ := hU
      clear hC hU
      go_wp2
      go_loopw [11] (fun s wr => ∃ (k : Nat), k ≤ 64 ∧ s = .int .i64 k ∧ CapsAt wr b (hoTo T pe ps qe qs (m * 64 + k)) ∧ Upd b W wr) (fun s _ => 64 - (intOf s).toNat)
      case atStart => exact ⟨0, by omega, rfl, H0.out, H1.out⟩
      case round =>
        clear H0 H1
        obtain ⟨s, hs', rfl, hC, hU⟩ := hrel
        by_cases hs : s < 64
        · have hp := (hU.block _ (lt_of_heap HP.out) (by omega)).trans HP.out
          have hq := (hU.block _ (lt_of_heap HQ.out) (by omega)).trans HQ.out
          have p0 : wr.cell? ⟨w.heap.size, 0, none⟩ = some (.int .i64 pe) := by rw [cell_of_heap hp]; rfl
          have p1 : wr.cell? ⟨w.heap.size, 1, none⟩ = some (.int .i64 ps) := by rw [cell_of_heap hp]; rfl
          have q0 : wr.cell? ⟨w.heap.size + 1, 0, none⟩ = some (.int .i64 qe) := by rw [cell_of_heap hq]; rfl
          have q1 : wr.cell? ⟨w.heap.size + 1, 1, none⟩ = some (.int .i64 qs) := by rw [cell_of_heap hq]; rfl
          obtain ⟨⟨_, _, _, _⟩, c4, c5⟩ := hC.cells hm hs (hoTo_at T pe ps qe qs (m * 64 + s))
          have heq := place_eql (T (m * 64 + s)).e (T (m * 64 + s)).s pe ps
          have f4 := hC.free (m * 384 + s * 6 + 4)
          have f5 := hC.free (m * 384 + s * 6 + 5)
          have HC2 : Hid _ := hC
          clear hC hp hq
          cases ho : ofB (T (m * 64 + s)) pe ps with
          | false =>
            have ho' := ho
            unfold ofB at ho'
            rw [ho'] at heq
            have HM : Hid _ := hoTo_miss (qe := qe) (qs := qs) ho
            clear ho ho' q0 q1 f4 f5
            generalize (T (m * 64 + s)).e = te at *
            generalize (T (m * 64 + s)).s = ts at *
            go_wp2
            go_quiet (fail)
            go_wp2
            go_roundw
            case rel =>
              refine ⟨s + 1, by omega, by go_num, ?_, hU.trans (Upd.drewN _ _)⟩
              have h2 := HC2.out.drewN nq
              rw [HM.out] at h2
              exact h2
            case measure => simp [intOf]; omega
          | true =>
            have ho' := ho
            unfold ofB at ho'
            rw [ho'] at heq
            have HM : Hid _ := hoTo_hit (qe := qe) (qs := qs) ho
            clear ho ho'
            generalize (T (m * 64 + s)).e = te at *
            generalize (T (m * 64 + s)).s = ts at *
            go_wp2
            go_quiet (fail)
            obtain ⟨V, hV⟩ : ∃ V, V = wr.drewN nq := ⟨_, rfl⟩
            rw [← hV]
            have hbV : Below wr.heap.size wr V := by rw [hV]; exact below_drewN (Below.refl _ _) nq
            have HC3 : Hid (CapsAt V b (hoTo T pe ps qe qs (m * 64 + s))) := HC2.out.below hbV
            have HV : Hid (Upd b W V) := hU.trans (Upd.of_below hbV)
            rw [← hbV.cell (cell_lt q0)] at q0
            rw [← hbV.cell (cell_lt q1)] at q1
            rw [← hbV.cell (cell_lt c4)] at c4
            rw [← hbV.cell (cell_lt c5)] at c5
            replace f4 := HC3.out.free (m * 384 + s * 6 + 4)
            replace f5 := HC3.out.free (m * 384 + s * 6 + 5)
            clear hV hbV p0 p1 hU HC2 heq
            go_wp2
            go_region
            all_goals
              go_wp2
              go_roundw
              case rel =>
                have hp := (HC3.out.put2 (j := m * 64 + s) (o := m * 384 + s * 6) (by omega) (by omega) qe qs (T (m * 64 + s)).x (by rw [hoTo_at])).drew
                rw [HM.out] at hp
                have hu := (HV.out.trans ((Upd.setCell b (m * 384 + s * 6 + 4) V (.int .i64 qe)).trans (Upd.setCell b (m * 384 + s * 6 + 5) _ (.int .i64 qs)))).trans (Upd.drew _ _)
                exact ⟨s + 1, by omega, by go_num, hp, hu⟩
              case measure => simp [intOf]; omega
        · obtain rfl : s = 64 := by omega
          go_wp2
          go_roundw
          case rel => exact ⟨m + 1, by omega, by go_num, by rw [show (m + 1) * 64 = m * 64 + 64 from by omega]; exact hC, hU⟩
          case measure => simp [intOf]; omega
    · obtain rfl : m = 12 := by omega
      go_wp2
      go_end0
      exact ⟨rfl, hC, (Upd.of_below HB.out).trans hU⟩
end Ca
end Go.Proofs.YtfnafjddajgahaaGreat
