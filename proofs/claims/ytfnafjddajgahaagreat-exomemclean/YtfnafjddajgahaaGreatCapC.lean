/- Has, Holders. -/
import Derived.Test.YtfnafjddajgahaaGreatCapB
import Derived.Deep.AppendLies
namespace Go.Proofs.YtfnafjddajgahaaGreat
open Go.RowKit
namespace Ca
set_option linter.unusedVariables false

/-- Numbers as cells. -/
def ivs (zs : List Int) : List Value := zs.map (Value.int .i64)
theorem ownsRow_at {w w' : World} {base : Nat} {e : TypeId} {size : Nat} {v : Value} {n : Nat} {xs : List Value} (h : w.ownsRow base e size v n xs) (hb : ∀ g, v.ownBlock = some g → w'.heap[g]? = w.heap[g]?) : w'.ownsRow base e size v n xs := by
  obtain ⟨h1, h2⟩ := h
  refine ⟨h1, ?_⟩
  rcases h2 with h2 | ⟨g, cap, cur, hv, hg, hh, r⟩
  · exact Or.inl h2
  · exact Or.inr ⟨g, cap, cur, hv, hg, (hb g (by rw [hv]; rfl)).trans hh, r⟩
theorem ownsRow_below {w w' : World} {base : Nat} {e : TypeId} {size : Nat} {v : Value} {n : Nat} {xs : List Value} (h : w.ownsRow base e size v n xs) (hb : Below w.heap.size w w') : w'.ownsRow base e size v n xs :=
  ownsRow_at h (fun g hg => hb.block g (h.lt g hg).2)
theorem intInfo : (Tryz.prog.info? 3).map (fun i => (i.zero, i.size, i.bytes)) = some (some (.int .i64 0), 1, 8) := by kernel_rfl
theorem below_grown {B : Nat} {w w' : World} {v : Value} (h : w.grownBy w' v.ownBlock) (hs : B ≤ w.heap.size) (hv : ∀ g, v.ownBlock = some g → B ≤ g) : Below B w w' :=
  ⟨h.os, h.tape, h.output, h.size, fun k hk => h.block k (by omega) (fun e => by have := hv k e.symm; omega)⟩
theorem ownsRow_low {w : World} {base : Nat} {e : TypeId} {size : Nat} {v : Value} {n : Nat} {xs : List Value} (h : w.ownsRow base e size v n xs) : ∀ g, v.ownBlock = some g → base ≤ g := by
  intro g hg
  rcases h.2 with ⟨e2, _⟩ | ⟨g', cap, cur, e2, hb, _⟩
  · rw [e2] at hg; simp [Value.ownBlock] at hg
  · rw [e2] at hg; simp [Value.ownBlock] at hg; omega

/-- All slots hold small numbers. -/
def Sanes (T : Tab) : Prop := ∀ j, j < 768 → Sane (T j).x
/-- Does this one cover it, with these rights? -/
def hitB (x : Cp) (K I r : Int) : Bool := coversB x K I && among r x.rights
/-- Has an environment one? -/
def hasN (T : Tab) (m : Nat) (K I r : Int) : Bool := (List.range 64).any (fun s => hitB (T (m * 64 + s)).x K I r)
def hasB (T : Tab) (n K I r : Int) : Bool := isE n && hasN T n.toNat K I r
theorem hasN_hit {T : Tab} {m s : Nat} {K I r : Int} (hs : s < 64) (h : hitB (T (m * 64 + s)).x K I r = true) : hasN T m K I r = true := by
  unfold hasN
  rw [List.any_eq_true]
  exact ⟨s, by simpa using hs, h⟩
theorem hasN_miss {T : Tab} {m : Nat} {K I r : Int} (h : ∀ s, s < 64 → hitB (T (m * 64 + s)).x K I r = false) : hasN T m K I r = false := by
  unfold hasN
  rw [List.any_eq_false]
  intro s hs
  rw [h s (by simpa using hs)]
  simp

theorem has_nil (n K I r : Int) (w : World) :
    Calls Tryz.prog 99 #[.pointer none, .int .i64 n, .int .i64 K, .int .i64 I, .int .i64 r] w fun e w' => e = .returned (.bool false) ∧ w' = w := by
  go_enter Tryz.func99, Tryz.ntmps99
  go_wp2
  go_ret
  exact ⟨rfl, rfl⟩

set_option maxRecDepth 100000 in
set_option maxHeartbeats 1000000 in
theorem has_yes (b : Nat) (T : Tab) (m : Nat) (K I r : Int) (w : World) (h : CapsAt w b T) (hS : Sanes T) (hI : I64 I) (hm : m < 12) :
    Calls Tryz.prog 99 #[.pointer (some ⟨b, 0, none⟩), .int .i64 m, .int .i64 K, .int .i64 I, .int .i64 r] w fun e w' => e = .returned (.bool (hasN T m K I r)) ∧ Below w.heap.size w w' := by
  have hE := isEnv_at m
  rw [show isE m = true from by simp [isE]; omega] at hE
  have HH : Hid _ := h
  have HS : Hid _ := hS
  have HI : Hid _ := hI
  clear h hS hI
  go_enter Tryz.func99, Tryz.ntmps99
  go_wp2_with (go_at_call 90; refine (hE _).mono ?_; rintro e w1 ⟨rfl, hw1⟩; rw [hw1]; clear hw1 w1)
  go_loopw [20] (fun s wr => ∃ (k : Nat), k ≤ 64 ∧ s = .int .i64 k ∧ Hid (∀ j, j < k → hitB (T (m * 64 + j)).x K I r = false) ∧ Below w.heap.size w wr) (fun s _ => 64 - (intOf s).toNat)
  case atStart => exact ⟨0, by omega, rfl, (show Hid _ from fun j hj => absurd hj (Nat.not_lt_zero _)), Below.refl _ _⟩
  case round =>
    obtain ⟨k, hk, rfl, HN, hb⟩ := hrel
    by_cases hlt : k < 64
    · have hC := HH.out.below hb
      have c0 := hC.cell (j := m * 64 + k) (k := 0) (o := m * 384 + k * 6) (by omega) (by omega) (by omega)
      have c1 := hC.cell (j := m * 64 + k) (k := 1) (o := m * 384 + k * 6 + 1) (by omega) (by omega) (by omega)
      have c2 := hC.cell (j := m * 64 + k) (k := 2) (o := m * 384 + k * 6 + 2) (by omega) (by omega) (by omega)
      have c3 := hC.cell (j := m * 64 + k) (k := 3) (o := m * 384 + k * 6 + 3) (by omega) (by omega) (by omega)
      have hcall := fun W => covers_at (T (m * 64 + k)).x K I W (HS.out _ (by omega)) HI.out
      have HY : Hid (hitB (T (m * 64 + k)).x K I r = true → hasN T m K I r = true) := hasN_hit hlt
      have HM : Hid (hitB (T (m * 64 + k)).x K I r = false → ∀ j, j < k + 1 → hitB (T (m * 64 + j)).x K I r = false) := by
        intro hf j hj
        by_cases e : j = k
        · subst e; exact hf
        · exact HN.out j (by omega)
      clear hC HN
      unfold hitB at HY HM
      generalize T (m * 64 + k) = H at *
      obtain ⟨⟨x0, x1, x2, x3⟩, e, q⟩ := H
      dsimp only [Hd.get, cpRow] at *
      generalize coversB ⟨x0, x1, x2, x3⟩ K I = B at *
      obtain ⟨W, hW⟩ : ∃ W, W = wr.alloc (.cells #[.int .i64 x0, .int .i64 x1, .int .i64 x2, .int .i64 x3] 95) := ⟨_, rfl⟩
      have hbW : Below wr.heap.size wr W := by rw [hW]; exact below_alloc _ _
      have d3 : W.cell? ⟨wr.heap.size, 3, none⟩ = some (.int .i64 x3) := by
        rw [cell_of_heap (cs := #[.int .i64 x0, .int .i64 x1, .int .i64 x2, .int .i64 x3]) (t := 95) (fr := (0, 0)) (by rw [hW]; exact heap_alloc_new _ _)]
        rfl
      go_wp2_with fail
      rw [← hW]
      clear hW
      refine (hcall W).mono ?_
      rintro e w1 ⟨rfl, hb1⟩
      have d3' : w1.cell? ⟨wr.heap.size, 3, none⟩ = some (.int .i64 x3) := by rw [hb1.cell (cell_lt d3)]; exact d3
      have hbb := hb.trans ((hbW.trans (hb1.mono hbW.size)).mono hb.size)
      clear d3 c0 c1 c2 c3 hcall
      cases B with
      | false =>
        go_wp2
        go_roundw
        case rel => exact ⟨k + 1, by omega, by go_num, HM.out rfl, hbb⟩
        case measure => simp [intOf]; omega
      | true =>
        by_cases ha : bits .andNot .i64 r x3 = 0
        · have HT := HY.out (by simp [among, ha])
          have hae : (bits .andNot .i64 r x3 == 0) = true := by simp [ha]
          clear HY HM
          go_wp2
          go_ret
          exact ⟨by rw [HT]; rfl, hbb⟩
        · have HF : Hid _ := HM.out (by simp [among, ha])
          have hae : (bits .andNot .i64 r x3 == 0) = false := by simp [ha]
          clear HY HM
          go_wp2
          go_roundw
          case rel => exact ⟨k + 1, by omega, by go_num, HF.out, hbb⟩
          case measure => simp [intOf]; omega
    · obtain rfl : k = 64 := by omega
      have HF : Hid (hasN T m K I r = false) := hasN_miss HN.out
      go_wp2
      go_ret
      exact ⟨by rw [HF.out]; rfl, hb⟩
theorem has_at (b : Nat) (T : Tab) (n K I r : Int) (w : World) (h : CapsAt w b T) (hS : Sanes T) (hI : I64 I) :
    Calls Tryz.prog 99 #[.pointer (some ⟨b, 0, none⟩), .int .i64 n, .int .i64 K, .int .i64 I, .int .i64 r] w fun e w' => e = .returned (.bool (hasB T n K I r)) ∧ Below w.heap.size w w' := by
  cases hn : isE n with
  | true =>
    obtain ⟨m, rfl⟩ : ∃ m : Nat, n = m := ⟨n.toNat, by simp [isE] at hn; omega⟩
    have hm : m < 12 := by simp [isE] at hn; omega
    unfold hasB
    rw [hn]
    exact has_yes b T m K I r w h hS hI hm
  | false =>
    unfold hasB
    rw [hn]
    have hE := isEnv_at n
    rw [hn] at hE
    clear hn h hS
    go_enter Tryz.func99, Tryz.ntmps99
    go_wp2_with (go_at_call 90; refine (hE _).mono ?_; rintro e w1 ⟨rfl, rfl⟩)
    go_ret
    exact ⟨rfl, Below.refl _ _⟩

/-- Who has one, of the first k. -/
def holdTo (T : Tab) (K I : Int) (k : Nat) : List Int := ((List.range k).filter (fun m => hasN T m K I 0)).map Int.ofNat
theorem holdTo_len (T : Tab) (K I : Int) (k : Nat) : (holdTo T K I k).length ≤ k := by
  unfold holdTo
  rw [List.length_map]
  exact Nat.le_trans (List.length_filter_le _ _) (by simp)
theorem holdTo_yes {T : Tab} {K I : Int} {k : Nat} (h : hasN T k K I 0 = true) : holdTo T K I (k + 1) = holdTo T K I k ++ [(k : Int)] := by
  simp [holdTo, List.range_succ, h]
theorem holdTo_no {T : Tab} {K I : Int} {k : Nat} (h : hasN T k K I 0 = false) : holdTo T K I (k + 1) = holdTo T K I k := by
  simp [holdTo, List.range_succ, h]

end Ca
end Go.Proofs.YtfnafjddajgahaaGreat
