/- Package exomem: refs, and what is read off it: slices.Index, Left, Refs; Slot. -/
import Derived.Test.YtfnafjddajgahaaGreatExA
namespace Go.Proofs.YtfnafjddajgahaaGreat
open Go.RowKit Ca
set_option linter.unusedVariables false

/-- Numbers as a block's cells. -/
def irow (L : List Int) : Array Value := (L.map (Value.int .i64)).toArray
theorem irow_zero (n : Nat) : Array.replicate (n * 1) (Value.int .i64 0) = irow (List.replicate n 0) := by simp [irow]
theorem irow_set (L : List Int) (f : Nat) (v : Int) : (irow L).setIfInBounds f (.int .i64 v) = irow (L.set f v) := by
  apply Array.ext'
  simp [irow, List.map_set]
theorem irow_cell {w : World} {B : Nat} {L : List Int} {t : TypeId} (h : w.heap[B]? = some (.cells (irow L) t)) {i : Nat} {x : Int} (hx : L[i]? = some x) : w.cell? ⟨B, i, none⟩ = some (.int .i64 x) := by
  rw [cell_of_heap h]
  simp [irow, hx]
theorem make_ints (n : Nat) (h : n ≤ 1024) (w : World) :
    (Instr.makeSlice 86 (.int .i64 (n : Int)) (.int .i64 (n : Int))).run Tryz.prog w = .ok (.slice (some ⟨w.heap.size, 0, none⟩) n n) (w.alloc (.cells (irow (List.replicate n 0)) 3)) := by
  have := run_make_flat 86 3 (.int .i64 0) (.int .i64 0) 1 8 Tryz.underlying86 intInfo rfl (by omega) .i64 .i64 n (by omega) (by omega) w
  rwa [irow_zero] at this

set_option maxHeartbeats 1000000 in
theorem index0_at (L : List Int) (B cap : Nat) (w : World) (h : w.heap[B]? = some (.cells (irow L) 3)) (hl : L.length ≤ 1000000) :
    Calls Tryz.prog 55 #[.slice (some ⟨B, 0, none⟩) L.length cap, .int .i64 0] w fun e w' => e = .returned (.int .i64 (idx0 L)) ∧ w' = w := by
  have HH : Hid _ := h
  clear h
  go_enter Tryz.func55, Tryz.ntmps55
  go_wp2
  go_loopw [8] (fun s wr => ∃ (k : Nat), k ≤ L.length ∧ s = .int .i64 k ∧ Hid (∀ (j : Nat) (x : Int), j < k → L[j]? = some x → x ≠ 0) ∧ wr = w) (fun s _ => L.length - (intOf s).toNat)
  case atStart => exact ⟨0, by omega, rfl, (show Hid _ from fun j x hj => absurd hj (Nat.not_lt_zero _)), rfl⟩
  case round =>
    obtain ⟨k, hk, rfl, HN, hwr⟩ := hrel
    subst hwr
    by_cases hlt : k < L.length
    · obtain ⟨x, hx⟩ : ∃ x, L[k]? = some x := ⟨L[k], List.getElem?_eq_getElem hlt⟩
      have hc := irow_cell HH.out hx
      have HX : Hid _ := hx
      clear hx
      by_cases h0 : x = 0
      · have HF : Hid (idx0 L = (k : Int)) := idx0_hit (by rw [HX.out, h0]) HN.out
        subst h0
        clear HX HN
        go_wp2
        go_ret
        exact ⟨by rw [HF.out]; rfl, rfl⟩
      · have HM : Hid (∀ (j : Nat) (y : Int), j < k + 1 → L[j]? = some y → y ≠ 0) := by
          intro j y hj hy
          by_cases e : j = k
          · subst e
            rw [HX.out] at hy
            cases hy
            exact h0
          · exact HN.out j y (by omega) hy
        have hd : (0 = x) = False := by simp [Ne.symm h0]
        clear HX HN
        have h0' : ¬ (0 = x) := fun e => h0 e.symm
        clear hd
        go_wp2
        go_roundw
        case rel => exact ⟨k + 1, by omega, by go_num, HM, by first | rfl | trivial⟩
        case measure => simp [intOf]; omega
    · obtain rfl : k = L.length := by omega
      have HF : Hid (idx0 L = -1) := idx0_miss (fun j x hx => HN.out j x (List.getElem?_eq_some_iff.1 hx).1 hx)
      go_wp2
      go_ret
      exact ⟨by rw [HF.out]; rfl, rfl⟩

theorem krefs_nil (w : World) :
    Calls Tryz.prog 46 #[.pointer none] w fun x w' => x = .returned (.slice none 0 0) ∧ w' = w := by
  go_enter Tryz.func46, Tryz.ntmps46
  go_wp2
  go_ret
  exact ⟨rfl, rfl⟩

set_option maxRecDepth 100000 in
set_option maxHeartbeats 4000000 in
theorem krefs_at {K : Nat} {Y : Lay} {n : Nat} {vs : List Int} {T : Tab} {F : Pages} {w : World} (h : KerAt w K Y n vs T F) :
    Calls Tryz.prog 46 #[ptr K] w fun x w' => x = .returned (.slice (some ⟨w.heap.size, 0, none⟩) n n) ∧ w'.heap[w.heap.size]? = some (.cells (irow (refsTo T 768 n)) 3) ∧ Below w.heap.size w w' := by
  have hc := h.k0
  have hfr := Me.frames_mem _ _ _ _ _ h.mem
  have hmk := make_ints n h.n2 w
  have HK : Hid _ := h
  clear h
  obtain ⟨W, hW⟩ : ∃ W, W = w.alloc (.cells (irow (List.replicate n 0)) 3) := ⟨_, rfl⟩
  have HB : Hid (Below w.heap.size w W) := by rw [hW]; exact below_alloc _ _
  have HI : Hid (W.heap[w.heap.size]? = some (.cells (irow (refsTo T 0 n)) 3)) := by rw [hW, refsTo_zero]; exact heap_alloc_new _ _
  rw [← hW] at hmk
  clear hW
  go_enter Tryz.func46, Tryz.ntmps46
  go_wp2_with (go_at_call 86; refine hfr.mono ?_; rintro e w1 ⟨rfl, hw1⟩; rw [hw1]; clear hw1 w1)
  clear hc hfr hmk
  go_loopw [16] (fun s wr => ∃ (m : Nat), m ≤ 12 ∧ s = .int .i64 m ∧ wr.heap[w.heap.size]? = some (.cells (irow (refsTo T (m * 64) n)) 3) ∧ Below w.heap.size w wr) (fun s _ => 12 - (intOf s).toNat)
  case atStart => exact ⟨0, by omega, rfl, HI.out, HB.out⟩
  case round =>
    clear HB HI
    obtain ⟨m, hm', rfl, hR, hB⟩ := hrel
    by_cases hm : m < 12
    · have H0 : Hid _ := hR
      have H1 : Hid _ := hB
      clear hR hB
      have i1 : decide ((m : Int) < 12) = true := decide_eq_true (by omega)
      go_wp2
      go_loopw [5] (fun s wr => ∃ (k : Nat), k ≤ 64 ∧ s = .int .i64 (k + 1 : Nat) ∧ wr.heap[w.heap.size]? = some (.cells (irow (refsTo T (m * 64 + k) n)) 3) ∧ Below w.heap.size w wr) (fun s _ => 65 - (intOf s).toNat)
      case atStart => exact ⟨0, by omega, rfl, H0.out, H1.out⟩
      case round =>
        clear H0 H1
        obtain ⟨s, hs', rfl, hR, hB⟩ := hrel
        by_cases hs : s < 64
        · have hk := HK.out.below hB
          have hf := kframe_at hk m (s + 1 : Nat) 0
          rw [hk.inv.frm0, getT_nat T m s hm hs] at hf
          have HR : Hid _ := hR
          clear hR
          cases hi : (T (m * 64 + s)).x.is with
          | false =>
            rw [hi] at hf
            have HM : Hid _ := refsTo_miss (n := n) hi
            clear hi hk
            simp only [Bool.false_eq_true, if_false, Option.getD_none, Option.isSome_none] at hf
            go_wp2_with (go_at_call 48; refine hf.mono ?_; rintro e w1 ⟨rfl, hb1⟩)
            go_roundw
            case rel =>
              exact ⟨s + 1, by omega, by go_num, by rw [← Nat.add_assoc, HM.out]; exact (hb1.block _ (lt_of_heap HR.out)).trans HR.out, hB.trans (hb1.mono hB.size)⟩
            case measure => simp [intOf]; omega
          | true =>
            rw [hi] at hf
            obtain ⟨_, f1, f2, _⟩ := hk.inv.ok (by omega) hi
            obtain ⟨f, hfe⟩ : ∃ f : Nat, (T (m * 64 + s)).x.id = (f : Int) := ⟨(T (m * 64 + s)).x.id.toNat, by omega⟩
            rw [hfe] at hf f2
            have hfn : f < n := by omega
            have HM : Hid _ := refsTo_hit (n := n) hi hfe hfn
            have hcl := cnt_le T (m * 64 + s) f
            have HG : Hid ((refsTo T (m * 64 + s) n)[f]? = some ((cnt T (m * 64 + s) (f : Int) : Nat) : Int)) := refsTo_get _ _ _ _ hfn
            clear hi hk f1 f2 hfe
            simp only [if_true, Option.getD_some, Option.isSome_some] at hf
            generalize cnt T (m * 64 + s) (f : Int) = c at *
            have hnn := HK.out.n2
            go_wp2_with fail
            refine hf.mono ?_
            rintro e w1 ⟨rfl, hb1⟩
            have hr1 := (hb1.block _ (lt_of_heap HR.out)).trans HR.out
            have hc := irow_cell hr1 HG.out
            have hz := frozen_of_heap (i := f) hr1
            have HR1 : Hid _ := hr1
            clear hr1
            go_wp2
            go_roundw
            case rel =>
              refine ⟨s + 1, by omega, by go_num, ?_, ?_⟩
              · rw [← Nat.add_assoc, HM.out, ← irow_set]
                rw [setCell_eq_setRow _ _ _ _ _ _ _ HR1.out, setRow_heap _ _ _ _ _ _ HR1.out]
              · exact (hB.trans (hb1.mono hB.size)).setCell (Nat.le_refl _) _
            case measure => simp [intOf]; omega
        · obtain rfl : s = 64 := by omega
          go_wp2
          go_roundw
          case rel => exact ⟨m + 1, by omega, by go_num, by rw [show (m + 1) * 64 = m * 64 + 64 from by omega]; exact hR, hB⟩
          case measure => simp [intOf]; omega
    · obtain rfl : m = 12 := by omega
      go_wp2
      go_ret
      exact ⟨rfl, hR, hB⟩

theorem kleft_nil (w : World) :
    Calls Tryz.prog 10 #[.pointer none] w fun x w' => x = .returned (.int .i64 0) ∧ w' = w := by
  go_enter Tryz.func10, Tryz.ntmps10
  go_wp2_with (go_at_call 46; refine (krefs_nil _).mono ?_; rintro e w1 ⟨rfl, hw1⟩; rw [hw1]; clear hw1 w1)
  go_loopw [3, 9] (fun a s wr => a = .int .i64 0 ∧ s = .int .i64 0 ∧ wr = w) (fun _ s _ => 0)
  case atStart => exact ⟨rfl, rfl, rfl⟩
  case round =>
    obtain ⟨rfl, rfl, hwr⟩ := hrel
    subst hwr
    go_wp2
    go_ret
    exact ⟨rfl, rfl⟩

set_option maxHeartbeats 1000000 in
theorem kleft_at {K : Nat} {Y : Lay} {n : Nat} {vs : List Int} {T : Tab} {F : Pages} {w : World} (h : KerAt w K Y n vs T F) :
    Calls Tryz.prog 10 #[ptr K] w fun x w' => x = .returned (.int .i64 (leftN T n)) ∧ Below w.heap.size w w' := by
  have hr := krefs_at h
  have hnn := h.n2
  clear h
  go_enter Tryz.func10, Tryz.ntmps10
  go_wp2_with (go_at_call 46; refine hr.mono ?_; rintro e w1 ⟨rfl, hR, hB⟩)
  have HR : Hid _ := hR
  clear hR hr
  go_loopw [3, 9] (fun a s wr => ∃ (k : Nat), k ≤ n ∧ s = .int .i64 k ∧ a = .int .i64 (leftN T k) ∧ wr = w1) (fun _ s _ => n - (intOf s).toNat)
  case atStart => exact ⟨0, by omega, rfl, rfl, rfl⟩
  case round =>
    obtain ⟨k, hk, rfl, rfl, hwr⟩ := hrel
    subst hwr
    by_cases hlt : k < n
    · have hc := irow_cell HR.out (refsTo_get T 768 n k hlt)
      have HS : Hid _ := leftN_succ T k
      have hle := leftN_le T k
      generalize leftN T k = a at *
      generalize cnt T 768 (k : Int) = c at *
      by_cases h0 : c = 0
      · subst h0
        have HS2 : Hid (leftN T (k + 1) = a + 1) := HS.out
        clear HS
        go_wp2
        go_roundw
        case rel => exact ⟨k + 1, by omega, by go_num, by rw [HS2.out]; go_num, by first | rfl | trivial⟩
        case measure => simp [intOf]; omega
      · have HS2 : Hid (leftN T (k + 1) = a) := by rw [HS.out, if_neg h0]; rfl
        have h1 : ¬ ((c : Int) = 0) := by omega
        clear HS h0
        go_wp2
        go_roundw
        case rel => exact ⟨k + 1, by omega, by go_num, by rw [HS2.out], by first | rfl | trivial⟩
        case measure => simp [intOf]; omega
    · obtain rfl : k = n := by omega
      go_wp2
      go_ret
      exact ⟨rfl, hB⟩

theorem krefsN_nil (e s : Int) (w : World) :
    Calls Tryz.prog 12 #[.pointer none, .int .i64 e, .int .i64 s] w fun x w' => x = .returned (.int .i64 0) ∧ Below w.heap.size w w' := by
  go_enter Tryz.func12, Tryz.ntmps12
  go_wp2_with (go_at_call 48; refine (kframe_nil _ _ _ _).mono ?_; rintro e w1 ⟨rfl, hb⟩)
  go_ret
  exact ⟨rfl, hb⟩

theorem krefsN_at {K : Nat} {Y : Lay} {n : Nat} {vs : List Int} {T : Tab} {F : Pages} {w : World} (h : KerAt w K Y n vs T F) (e s : Int) :
    Calls Tryz.prog 12 #[ptr K, .int .i64 e, .int .i64 s] w fun x w' => x = .returned (.int .i64 (refsN T e s)) ∧ Below w.heap.size w w' := by
  have hf := kframe_at h e s 0
  rw [h.inv.frm0] at hf
  have HK : Hid _ := h
  have hnn := h.n2
  cases hi : (getT T e s).is with
  | false =>
    rw [hi] at hf
    have HN : Hid (refsN T e s = 0) := by unfold refsN; rw [hi]; rfl
    clear hi h
    simp only [Bool.false_eq_true, if_false, Option.getD_none, Option.isSome_none] at hf
    go_enter Tryz.func12, Tryz.ntmps12
    go_wp2_with (go_at_call 48; refine hf.mono ?_; rintro e w1 ⟨rfl, hb1⟩)
    go_ret
    exact ⟨by rw [HN.out]; rfl, hb1⟩
  | true =>
    rw [hi] at hf
    obtain ⟨_, f1, f2, _⟩ := h.inv.get hi
    obtain ⟨f, hfe⟩ : ∃ f : Nat, (getT T e s).id = (f : Int) := ⟨(getT T e s).id.toNat, by omega⟩
    have HN : Hid (refsN T e s = ((cnt T 768 (f : Int) : Nat) : Int)) := by unfold refsN; rw [hi, hfe]; rfl
    rw [hfe] at hf f2
    have hfn : f < n := by omega
    have HG : Hid ((refsTo T 768 n)[f]? = some ((cnt T 768 (f : Int) : Nat) : Int)) := refsTo_get _ _ _ _ hfn
    clear hi f1 f2 hfe h
    simp only [if_true, Option.getD_some, Option.isSome_some] at hf
    generalize cnt T 768 (f : Int) = c at *
    go_enter Tryz.func12, Tryz.ntmps12
    go_wp2_with fail
    refine hf.mono ?_
    rintro e w1 ⟨rfl, hb1⟩
    go_wp2_with fail
    refine (krefs_at (HK.out.below hb1)).mono ?_
    rintro e w2 ⟨rfl, hR, hb2⟩
    have hc := irow_cell hR HG.out
    clear hR
    go_wp2
    go_ret
    exact ⟨by rw [HN.out]; rfl, hb1.trans (hb2.mono hb1.size)⟩

theorem kslot_nil (e f : Int) (w : World) :
    Calls Tryz.prog 14 #[.pointer none, .int .i64 e, .int .i64 f] w fun x w' => x = .returned (.int .i64 0) ∧ Below w.heap.size w w' := by
  go_enter Tryz.func14, Tryz.ntmps14
  go_wp2
  go_loopw [7] (fun s wr => ∃ (k : Nat), k ≤ 64 ∧ s = .int .i64 (k + 1 : Nat) ∧ Below w.heap.size w wr) (fun s _ => 65 - (intOf s).toNat)
  case atStart => exact ⟨0, by omega, rfl, Below.refl _ _⟩
  case round =>
    obtain ⟨k, hk, rfl, hb⟩ := hrel
    by_cases hlt : k < 64
    · go_wp2_with (go_at_call 48; refine (kframe_nil _ _ _ _).mono ?_; rintro e w1 ⟨rfl, hb1⟩)
      go_roundw
      case rel => exact ⟨k + 1, by omega, by go_num, hb.trans (hb1.mono hb.size)⟩
      case measure => simp [intOf]; omega
    · obtain rfl : k = 64 := by omega
      go_wp2
      go_ret
      exact ⟨rfl, hb⟩

set_option maxHeartbeats 1000000 in
theorem kslot_at {K : Nat} {Y : Lay} {n : Nat} {vs : List Int} {T : Tab} {F : Pages} {w : World} (h : KerAt w K Y n vs T F) (e f : Int) :
    Calls Tryz.prog 14 #[ptr K, .int .i64 e, .int .i64 f] w fun x w' => x = .returned (.int .i64 (slotI T e f)) ∧ Below w.heap.size w w' := by
  have HK : Hid _ := h
  clear h
  go_enter Tryz.func14, Tryz.ntmps14
  go_wp2
  go_loopw [7] (fun s wr => ∃ (k : Nat), k ≤ 64 ∧ s = .int .i64 (k + 1 : Nat) ∧ Hid (∀ j, j < k → atF T e f j = false) ∧ Below w.heap.size w wr) (fun s _ => 65 - (intOf s).toNat)
  case atStart => exact ⟨0, by omega, rfl, (show Hid _ from fun j hj => absurd hj (Nat.not_lt_zero _)), Below.refl _ _⟩
  case round =>
    obtain ⟨k, hk, rfl, HN, hb⟩ := hrel
    by_cases hlt : k < 64
    · have hf := kframe_at (HK.out.below hb) e (k + 1 : Nat) 0
      rw [HK.out.inv.frm0] at hf
      have HY : Hid (atF T e f k = true → slotI T e f = ((k + 1 : Nat) : Int)) := fun h => slotI_hit hlt h HN.out
      have HM : Hid (atF T e f k = false → ∀ j, j < k + 1 → atF T e f j = false) := by
        intro h j hj
        by_cases e : j = k
        · rw [e]; exact h
        · exact HN.out j (by omega)
      have HA : Hid (atF T e f k = ((getT T e ((k + 1 : Nat) : Int)).is && (getT T e ((k + 1 : Nat) : Int)).id == f)) := rfl
      clear HN
      generalize atF T e f k = A at *
      generalize (getT T e ((k + 1 : Nat) : Int)).is = B at *
      generalize (getT T e ((k + 1 : Nat) : Int)).id = i at *
      cases B
      · have HF : Hid _ := HM.out (by rw [HA.out]; rfl)
        clear HY HM HA
        simp only [Bool.false_eq_true, if_false, Option.getD_none, Option.isSome_none] at hf
        go_wp2_with (go_at_call 48; refine hf.mono ?_; rintro e w1 ⟨rfl, hb1⟩)
        go_roundw
        case rel => exact ⟨k + 1, by omega, by go_num, HF, hb.trans (hb1.mono hb.size)⟩
        case measure => simp [intOf]; omega
      · simp only [if_true, Option.getD_some, Option.isSome_some] at hf
        by_cases hif : i = f
        · have HF := HY.out (by rw [HA.out, hif]; simp)
          clear HY HM HA
          subst hif
          go_wp2_with (go_at_call 48; refine hf.mono ?_; rintro e w1 ⟨rfl, hb1⟩)
          go_ret
          exact ⟨by rw [HF]; rfl, hb.trans (hb1.mono hb.size)⟩
        · have HF : Hid _ := HM.out (by rw [HA.out]; simpa using hif)
          clear HY HM HA
          go_wp2_with (go_at_call 48; refine hf.mono ?_; rintro e w1 ⟨rfl, hb1⟩)
          go_roundw
          case rel => exact ⟨k + 1, by omega, by go_num, HF, hb.trans (hb1.mono hb.size)⟩
          case measure => simp [intOf]; omega
    · obtain rfl : k = 64 := by omega
      have HF : Hid (slotI T e f = 0) := slotI_miss HN.out
      go_wp2
      go_ret
      exact ⟨by rw [HF.out]; rfl, hb⟩
end Go.Proofs.YtfnafjddajgahaaGreat
