/- Package fds: New, Get, Seek, Left, Open. -/
import Derived.Test.YtkdbmfckfbmbiaaFdB
namespace Go.Proofs.Ytkdbmfckfbmbiaa
open Go.RowKit
set_option linter.unusedVariables false

/-- The cells of new ones. -/
def zc : Array Value := (fvals FS.zero ++ List.replicate 48 (Value.int .i64 0)).toArray
theorem zc_lit : Try.zeroCells73 = zc := by kernel_rfl
theorem fd_new (w : World) : FdAt (w.alloc (.cells zc 73)) w.heap.size FS.zero := by
  refine ⟨⟨zc, heap_alloc_new _ _, by simp [zc, fvals_len], fun p hp k hk => ?_, fun i hi => ?_⟩⟩
  · have := fvals_get FS.zero p k hp hk
    unfold zc
    rw [List.getElem?_toArray, List.getElem?_append_left (by rw [fvals_len]; omega)]
    exact this
  · unfold zc
    rw [List.getElem?_toArray, List.getElem?_append_right (by rw [fvals_len]; omega), fvals_len, List.getElem?_replicate, if_pos (by omega)]
    rfl
theorem new_at (w : World) :
    Calls Try.prog 8 #[] w fun e w' => e = .returned (.pointer (some ⟨w.heap.size, 0, none⟩)) ∧ FdAt w' w.heap.size FS.zero ∧ Below w.heap.size w w' ∧ w'.heap.size = w.heap.size + 1 := by
  have h1 := fd_new w
  rw [← zc_lit] at h1
  have HH : Hid _ := h1
  clear h1
  go_enter Try.func8, Try.ntmps8
  go_wp2
  go_ret
  exact ⟨rfl, HH.out, below_alloc _ _, by simp⟩

/-- The cells of no file. -/
abbrev nor : Array Value := #[.int .i64 0, .int .i64 0, .int .i64 0, .bool false, .int .i64 0]
/-- A file's cells are laid. -/
abbrev lay5 (w : World) (g o : Nat) (x : Fl) : World := ((((w.setCell ⟨g, o, none⟩ (.int .i64 x.kind)).setCell ⟨g, o + 1, none⟩ (.int .i64 x.id)).setCell ⟨g, o + 2, none⟩ (.int .i64 x.off)).setCell ⟨g, o + 3, none⟩ (.bool x.app)).setCell ⟨g, o + 4, none⟩ (.int .i64 x.refs)
theorem below5 {B g : Nat} {a w : World} (h : Below B a w) (hg : B ≤ g) (x : Fl) : Below B a (lay5 w g 0 x) :=
  ((((h.setCell (p := ⟨g, 0, none⟩) hg _).setCell (p := ⟨g, 1, none⟩) hg _).setCell (p := ⟨g, 2, none⟩) hg _).setCell (p := ⟨g, 3, none⟩) hg _).setCell (p := ⟨g, 4, none⟩) hg _
theorem upd5 (g o : Nat) (w : World) (x : Fl) : Upd g w (lay5 w g o x) :=
  ((((Upd.setCell g o w _).trans (Upd.setCell g (o + 1) _ _)).trans (Upd.setCell g (o + 2) _ _)).trans (Upd.setCell g (o + 3) _ _)).trans (Upd.setCell g (o + 4) _ _)
theorem get_nil (n k : Int) (w : World) :
    Calls Try.prog 16 #[.pointer none, .int .i64 n, .int .i64 k] w fun e w' => e = .returned (.tuple #[.agg Fl.no.row, .int .i64 9]) ∧ Below w.heap.size w w' := by
  have hF := fun W => file_nil n k W
  go_enter Try.func16, Try.ntmps16
  go_wp2_with fail
  refine (hF _).mono ?_
  rintro e w1 ⟨rfl, hw⟩
  rw [hw]
  clear hw w1 hF
  go_wp2
  refine bodyPost_ret (v := .tuple #[.agg nor, .int .i64 9]) ?_ rfl ⟨rfl, ?_⟩
  · rw [results_cell_tmp rfl]; go_simp
  · exact below_alloc _ _
set_option maxHeartbeats 1000000 in
theorem get_at (b : Nat) (S : FS) (n k : Int) (w : World) (h : FdAt w b S) (hI : Inv S) :
    Calls Try.prog 16 #[.pointer (some ⟨b, 0, none⟩), .int .i64 n, .int .i64 k] w fun e w' => e = .returned (.tuple #[.agg (getX S n k).row, .int .i64 (getE S n k)]) ∧ Below w.heap.size w w' := by
  obtain ⟨W, hW⟩ : ∃ W, W = w.alloc (.cells nor 30) := ⟨_, rfl⟩
  have hbW : Below w.heap.size w W := by rw [hW]; exact below_alloc _ _
  have h1 := h.below hbW
  have HBW : Hid (Below w.heap.size w W) := hbW
  have hne := fptr_eq b
  by_cases hn : nm S n k = 0
  · have hF := file_no b S n k W h1 hn
    have HE : Hid (getE S n k = 9) := by show _ = _; unfold getE; rw [if_pos hn]
    have HX : Hid (getX S n k = Fl.no) := by show _ = _; unfold getX; rw [if_pos hn]
    have HW : Hid _ := hW
    clear h h1 hbW hn hW
    go_enter Try.func16, Try.ntmps16
    go_wp2_with fail
    rw [← Hid.out HW]
    refine hF.mono ?_
    rintro e w1 ⟨rfl, hw⟩
    rw [hw]
    clear hw w1 hF
    rw [Hid.out HW]
    go_wp2
    refine bodyPost_ret (v := .tuple #[.agg nor, .int .i64 9]) ?_ rfl ⟨by rw [HE.out, HX.out]; rfl, ?_⟩
    · rw [results_cell_tmp rfl]; go_simp
    · exact below_alloc _ _
  · obtain ⟨m, j, rfl, rfl, hm, hj, h2, h3⟩ := nm_yes hn
    obtain ⟨h4, h5, h6⟩ := hI.pos (k := m * 6 + j) (by omega) h3
    obtain ⟨p, hp⟩ : ∃ p, S.t (m * 6 + j) = p + 1 := ⟨S.t (m * 6 + j) - 1, by omega⟩
    have hF := file_yes b S m j p W h1 hm hj hp (by omega)
    have HE : Hid (getE S ((m : Int) + 1) j = 0) := by show _ = _; unfold getE; rw [if_neg hn]
    have HX : Hid (getX S ((m : Int) + 1) j = S.f p) := by show _ = _; unfold getX; rw [if_neg hn, h2, hp]; rfl
    obtain ⟨c0, c1, c2, c3, c4⟩ := h1.drew.cells (p := p) (by omega)
    have hbl := h1.lt
    have hbl0 := h.lt
    have hnb : w.heap.size ≠ b := by omega
    have hWn : W.drew.heap[w.heap.size]? = some (.cells nor 30) := by rw [hW]; exact heap_alloc_new _ _
    have HWN : Hid (W.drew.heap[w.heap.size]? = some (.cells nor 30)) := hWn
    have z0 : W.drew.cell? ⟨w.heap.size, 0, none⟩ = some (.int .i64 0) := by rw [cell_of_heap hWn]; rfl
    have z1 : W.drew.cell? ⟨w.heap.size, 1, none⟩ = some (.int .i64 0) := by rw [cell_of_heap hWn]; rfl
    have z2 : W.drew.cell? ⟨w.heap.size, 2, none⟩ = some (.int .i64 0) := by rw [cell_of_heap hWn]; rfl
    have z3 : W.drew.cell? ⟨w.heap.size, 3, none⟩ = some (.bool false) := by rw [cell_of_heap hWn]; rfl
    have z4 : W.drew.cell? ⟨w.heap.size, 4, none⟩ = some (.int .i64 0) := by rw [cell_of_heap hWn]; rfl
    have zf : ∀ o, W.drew.frozen? ⟨w.heap.size, o, none⟩ = false := fun o => frozen_of_heap hWn
    have hws : W.heap.size = w.heap.size + 1 := by rw [hW]; simp
    have HW : Hid _ := hW
    clear h h1 hbW hn hW h2 h3 h4 h5 h6 hp hWn hws
    go_enter Try.func16, Try.ntmps16
    go_wp2_with fail
    rw [← Hid.out HW]
    refine hF.mono ?_
    rintro e w1 ⟨rfl, hw⟩
    rw [hw]
    clear hw w1 hF HW
    have HBV : Hid (Below w.heap.size w W.drew) := HBW.out.drew
    generalize W.drew = V at *
    go_wp2
    refine bodyPost_ret (v := .tuple #[.agg (S.f p).row, .int .i64 0]) ?_ rfl ⟨by rw [HE.out, HX.out], ?_⟩
    · rw [results_cell_tmp rfl]; go_simp
    · exact below5 HBV.out (Nat.le_refl _) _

theorem seek_nil (n k o : Int) (w : World) :
    Calls Try.prog 18 #[.pointer none, .int .i64 n, .int .i64 k, .int .i64 o] w fun e w' => e = .returned (.int .i64 9) ∧ w' = w := by
  have hF := file_nil n k w
  go_enter Try.func18, Try.ntmps18
  go_wp2_with (go_at_call 41; refine hF.mono ?_; rintro e w1 ⟨rfl, hw⟩; rw [hw]; clear hw w1)
  go_ret
  exact ⟨rfl, rfl⟩
theorem seek_at (b : Nat) (S : FS) (n k o : Int) (w : World) (h : FdAt w b S) (hI : Inv S) :
    Calls Try.prog 18 #[.pointer (some ⟨b, 0, none⟩), .int .i64 n, .int .i64 k, .int .i64 o] w fun e w' => e = .returned (.int .i64 (seekE S n k o)) ∧ FdAt w' b (seekT S n k o) ∧ Upd b w w' := by
  have hne := fptr_eq b
  by_cases hn : nm S n k = 0
  · have hF := file_no b S n k w h hn
    have HE : Hid (seekE S n k o = 9) := by show _ = _; unfold seekE; rw [if_pos hn]
    have HX : Hid (seekT S n k o = S) := by show _ = _; unfold seekT; rw [if_pos (Or.inl hn)]
    have HH : Hid (FdAt w b S) := h
    clear h hn
    go_enter Try.func18, Try.ntmps18
    go_wp2_with (go_at_call 41; refine hF.mono ?_; rintro e w1 ⟨rfl, hw⟩; rw [hw]; clear hw w1)
    go_ret
    exact ⟨by rw [HE.out]; rfl, by rw [HX.out]; exact HH.out, Upd.refl _ _⟩
  · obtain ⟨m, j, rfl, rfl, hm, hj, h2, h3⟩ := nm_yes hn
    obtain ⟨h4, h5, h6⟩ := hI.pos (k := m * 6 + j) (by omega) h3
    obtain ⟨p, hp⟩ : ∃ p, S.t (m * 6 + j) = p + 1 := ⟨S.t (m * 6 + j) - 1, by omega⟩
    have hF := file_yes b S m j p w h hm hj hp (by omega)
    have hp32 : p < 32 := by omega
    obtain ⟨c0, c1, c2, c3, c4⟩ := h.drew.cells (p := p) hp32
    have f2 := h.drew.free (p * 5 + 2)
    have HH : Hid (FdAt w.drew b S) := h.drew
    by_cases ho : o < 0
    · have HE : Hid (seekE S ((m : Int) + 1) j o = 22) := by show _ = _; unfold seekE; rw [if_neg hn, if_pos ho]
      have HX : Hid (seekT S ((m : Int) + 1) j o = S) := by show _ = _; unfold seekT; rw [if_pos (Or.inr ho)]
      have g0 : decide (o < 0) = true := decide_eq_true ho
      clear h hn h2 h3 h4 h5 h6 hp
      go_enter Try.func18, Try.ntmps18
      go_wp2_with (go_at_call 41; refine hF.mono ?_; rintro e w1 ⟨rfl, hw⟩; rw [hw]; clear hw w1)
      go_ret
      exact ⟨by rw [HE.out]; rfl, by rw [HX.out]; exact HH.out, Upd.drew _ _⟩
    · have HE : Hid (seekE S ((m : Int) + 1) j o = 0) := by show _ = _; unfold seekE; rw [if_neg hn, if_neg ho]
      have HX : Hid (seekT S ((m : Int) + 1) j o = S.setF p ((S.f p).at o)) := by show _ = _; unfold seekT; rw [if_neg (by rintro (q | q) <;> contradiction), h2, hp]; rfl
      have g0 : decide (o < 0) = false := decide_eq_false ho
      clear h hn h2 h3 h4 h5 h6 hp
      go_enter Try.func18, Try.ntmps18
      go_wp2_with (go_at_call 41; refine hF.mono ?_; rintro e w1 ⟨rfl, hw⟩; rw [hw]; clear hw w1)
      go_ret
      exact ⟨by rw [HE.out]; rfl, by rw [HX.out]; exact HH.out.off hp32 o, (Upd.drew _ _).trans (Upd.setCell _ _ _ _)⟩

theorem leftA_nil (n : Int) (w : World) :
    Calls Try.prog 26 #[.pointer none, .int .i64 n] w fun e w' => e = .returned (.int .i64 0) ∧ w' = w := by
  have hF := table_nil n w
  go_enter Try.func26, Try.ntmps26
  go_wp2_with (go_at_call 35; refine hF.mono ?_; rintro e w1 ⟨rfl, hw⟩; rw [hw]; clear hw w1)
  go_ret
  exact ⟨rfl, rfl⟩
theorem leftA_at (b : Nat) (S : FS) (n : Int) (w : World) (h : FdAt w b S) :
    Calls Try.prog 26 #[.pointer (some ⟨b, 0, none⟩), .int .i64 n] w fun e w' => e = .returned (.int .i64 (leftA S n)) ∧ w' = w := by
  cases hp : isP n with
  | false =>
    have hF := table_no b n w hp
    have HE : Hid (leftA S n = 0) := by show _ = _; unfold leftA; rw [hp]; rfl
    clear h hp
    go_enter Try.func26, Try.ntmps26
    go_wp2_with (go_at_call 35; refine hF.mono ?_; rintro e w1 ⟨rfl, hw⟩; rw [hw]; clear hw w1)
    go_ret
    exact ⟨by rw [HE.out]; rfl, rfl⟩
  | true =>
    obtain ⟨m, rfl, hm⟩ := isP_nat hp
    have hF := table_at b m w hm
    have hL := left_at b S m w h hm
    have hne := tptr_eq b (160 + m * 6)
    have HE : Hid (leftA S ((m : Int) + 1) = (leftTo S m 6 : Nat)) := by show _ = _; unfold leftA; rw [hp, show ((m : Int) + 1 - 1).toNat = m by omega]; rfl
    clear h hp
    generalize leftTo S m 6 = r at *
    go_enter Try.func26, Try.ntmps26
    go_wp2_with (first | (go_at_call 35; refine hF.mono ?_; rintro e w1 ⟨rfl, hw⟩; rw [hw]; clear hw w1) | (go_at_call 48; refine hL.mono ?_; rintro e w1 ⟨rfl, hw⟩; rw [hw]; clear hw w1))
    go_ret
    exact ⟨by rw [HE.out]; rfl, rfl⟩
end Go.Proofs.Ytkdbmfckfbmbiaa
