/- januslaw18: both machines side by side. -/
import Derived.Test.YtkdbmfckfbmbiaaDeed18
import Derived.Test.YtkdbmfckfbmbiaaRfW18
import Derived.Test.YtkdbmfckfbmbiaaRfL18
import Derived.Test.YtkdbmfckfbmbiaaRfR18
import Derived.Test.YtkdbmfckfbmbiaaRfU18
import Derived.Laws.StructEq
import Derived.Lib.RowBridge
namespace Go.Proofs.Ytkdbmfckfbmbiaa
open Go.RowKit
set_option linter.unusedVariables false

theorem RIs.updF {w w' : World} {B b c : Nat} {v : Value} {L : List En} {S : FS} (h : RIs w B c v L) (hf : FdAt w b S) (hu : Upd b w w') : RIs w' B c v L := by
  refine h.keep (fun k cs t fr hk ht => (hu.block k (lt_of_heap hk) ?_).trans hk)
  rintro rfl
  obtain ⟨row, hr, _⟩ := hf.head
  rw [hk] at hr
  simp only [Option.some.injEq, Obj.cells.injEq] at hr
  have e := hr.2.1
  rcases ht with q | q | q <;> (rw [q] at e; exact absurd e (by decide))
/-- Both machines say the same. -/
structure Duo (w : World) (B b c : Nat) (S : FS) : Prop where
  fd : FdAt w b S
  rf : ∃ v L, RIs w B c v L ∧ RL L S
  inv : Inv S
  fit : FitS S
  sz : B ≤ w.heap.size
section
variable {w w' w1 w2 : World} {B b c : Nat} {S T : FS}
theorem Duo.below (h : Duo w B b c S) (hb : Below w.heap.size w w') : Duo w' B b c S := by
  obtain ⟨v, L, h1, h2⟩ := h.rf
  exact ⟨h.fd.below hb, ⟨v, L, h1.below hb, h2⟩, h.inv, h.fit, Nat.le_trans h.sz hb.size⟩
theorem Duo.step (h : Duo w B b c S) (h1 : FdAt w1 b T) (hu : Upd b w w1) (h2 : ∃ v L, RIs w2 B c v L ∧ RL L T) (hr : RU B w1 w2) (hi : Inv T) (hf : FitS T) : Duo w2 B b c T :=
  ⟨h1.ru hr, h2, hi, hf, Nat.le_trans h.sz (Nat.le_trans hu.size hr.size)⟩
theorem Duo.mid (h : Duo w B b c S) (hu : Upd b w w1) : (∃ v L, RIs w1 B c v L ∧ RL L S) ∧ B ≤ w1.heap.size := by
  obtain ⟨v, L, h1, h2⟩ := h.rf
  exact ⟨⟨v, L, h1.updF h.fd hu, h2⟩, Nat.le_trans h.sz hu.size⟩
theorem Duo.ropen (h : Duo w B b c S) (n : Int) (x : Fl) (hx : Fit x) (h1 : FdAt w1 b (openT S n x)) (hu : Upd b w w1) :
    Calls Try.prog 11 #[.pointer (some ⟨c, 0, none⟩), .int .i64 n, .agg x.row] w1 fun e w2 => e = .returned (.tuple #[.int .i64 (openA S n), .int .i64 (openE S n)]) ∧ Duo w2 B b c (openT S n x) ∧ RU B w1 w2 := by
  obtain ⟨⟨v, L, hR, hL⟩, hB⟩ := h.mid hu
  refine (ropen_at B c v L S n x w1 hR hL h.inv hB).mono ?_
  rintro e w2 ⟨rfl, h2, hr⟩
  exact ⟨rfl, h.step h1 hu h2 hr (h.inv.openT n x) (h.fit.openT hx), hr⟩
theorem Duo.rdup (h : Duo w B b c S) (n k : Int) (h1 : FdAt w1 b (dupT S n k)) (hu : Upd b w w1) :
    Calls Try.prog 13 #[.pointer (some ⟨c, 0, none⟩), .int .i64 n, .int .i64 k] w1 fun e w2 => e = .returned (.tuple #[.int .i64 (dupA S n k), .int .i64 (dupE S n k)]) ∧ Duo w2 B b c (dupT S n k) ∧ RU B w1 w2 := by
  obtain ⟨⟨v, L, hR, hL⟩, hB⟩ := h.mid hu
  refine (rdup_at B c v L S n k w1 hR hL h.inv hB).mono ?_
  rintro e w2 ⟨rfl, h2, hr⟩
  exact ⟨rfl, h.step h1 hu h2 hr (h.inv.dupT n k) (h.fit.dupT h.inv n k), hr⟩
theorem Duo.rclose (h : Duo w B b c S) (n k : Int) (h1 : FdAt w1 b (closeT S n k)) (hu : Upd b w w1) :
    Calls Try.prog 15 #[.pointer (some ⟨c, 0, none⟩), .int .i64 n, .int .i64 k] w1 fun e w2 => e = .returned (.tuple #[.agg (closeX S n k).row, .int .i64 (getE S n k)]) ∧ Duo w2 B b c (closeT S n k) ∧ RU B w1 w2 := by
  obtain ⟨⟨v, L, hR, hL⟩, hB⟩ := h.mid hu
  refine (rclose_at B c v L S n k w1 hR hL h.inv hB).mono ?_
  rintro e w2 ⟨rfl, h2, hr⟩
  exact ⟨rfl, h.step h1 hu h2 hr (h.inv.closeT n k) (h.fit.closeT h.inv n k), hr⟩
theorem Duo.rget (h : Duo w B b c S) (n k : Int) :
    Calls Try.prog 17 #[.pointer (some ⟨c, 0, none⟩), .int .i64 n, .int .i64 k] w fun e w2 => e = .returned (.tuple #[.agg (getX S n k).row, .int .i64 (getE S n k)]) ∧ Duo w2 B b c S ∧ Below w.heap.size w w2 := by
  obtain ⟨v, L, hR, hL⟩ := h.rf
  refine (rget_at B c v L S n k w hR hL).mono ?_
  rintro e w2 ⟨rfl, hb⟩
  exact ⟨rfl, h.below hb, hb⟩
theorem Duo.rseek (h : Duo w B b c S) (n k o : Int) (ho : o ≤ 1048576) (h1 : FdAt w1 b (seekT S n k o)) (hu : Upd b w w1) :
    Calls Try.prog 19 #[.pointer (some ⟨c, 0, none⟩), .int .i64 n, .int .i64 k, .int .i64 o] w1 fun e w2 => e = .returned (.int .i64 (seekE S n k o)) ∧ Duo w2 B b c (seekT S n k o) ∧ RU B w1 w2 := by
  obtain ⟨⟨v, L, hR, hL⟩, hB⟩ := h.mid hu
  refine (rseek_at B c v L S n k o w1 hR hL).mono ?_
  rintro e w2 ⟨rfl, h2, hr⟩
  exact ⟨rfl, h.step h1 hu h2 hr (h.inv.seekT n k o) (h.fit.seekT h.inv n k o ho), hr⟩
theorem Duo.rfork (h : Duo w B b c S) (n d : Int) (h1 : FdAt w1 b (forkT S n d)) (hu : Upd b w w1) :
    Calls Try.prog 21 #[.pointer (some ⟨c, 0, none⟩), .int .i64 n, .int .i64 d] w1 fun e w2 => e = .returned (.tuple #[]) ∧ Duo w2 B b c (forkT S n d) ∧ RU B w1 w2 := by
  obtain ⟨⟨v, L, hR, hL⟩, hB⟩ := h.mid hu
  refine (rfork_at B c v L S n d w1 hR hL h.inv hB).mono ?_
  rintro e w2 ⟨rfl, h2, hr⟩
  exact ⟨rfl, h.step h1 hu h2 hr (h.inv.forkT n d) (h.fit.forkT h.inv n d), hr⟩
theorem Duo.rgone (h : Duo w B b c S) (n : Int) (h1 : FdAt w1 b (goneTo S n 6)) (hu : Upd b w w1) :
    Calls Try.prog 23 #[.pointer (some ⟨c, 0, none⟩), .int .i64 n] w1 fun e w2 => ∃ v, e = .returned v ∧ w2.ownsRow w1.heap.size 30 5 v (goneL S n 6).length (fls (goneL S n 6)) ∧ Duo w2 B b c (goneTo S n 6) ∧ RU B w1 w2 := by
  obtain ⟨⟨v, L, hR, hL⟩, hB⟩ := h.mid hu
  refine (rgone_at B c v L S n w1 hR hL h.inv hB).mono ?_
  rintro e w2 ⟨u, rfl, ho, h2, hr⟩
  exact ⟨u, rfl, ho, h.step h1 hu h2 hr (h.inv.goneTo n 6) (h.fit.goneTo h.inv n 6), hr⟩
theorem Duo.rleft (h : Duo w B b c S) (n : Int) :
    Calls Try.prog 27 #[.pointer (some ⟨c, 0, none⟩), .int .i64 n] w fun e w2 => e = .returned (.int .i64 (leftA S n)) ∧ w2 = w := by
  obtain ⟨v, L, hR, hL⟩ := h.rf
  exact rleft_at B c v L S n w hR hL
theorem Duo.rids (h : Duo w B b c S) (k : Int) :
    Calls Try.prog 30 #[.pointer (some ⟨c, 0, none⟩), .int .i64 k] w fun e w2 => ∃ a cap, e = .returned (.slice a (idsA S k).length cap) ∧ IRow w2 a (idsA S k) ∧ Below w.heap.size w w2 := by
  obtain ⟨v, L, hR, hL⟩ := h.rf
  refine (rids_at B c v L k w hR (by rw [hL.len]; exact ord_len48 S.t)).mono ?_
  rw [ids_same hL h.inv]
  rintro e w2 ⟨u, rfl, ho, hb⟩
  obtain ⟨a, cap, rfl, hr⟩ := own_irow ho
  exact ⟨a, cap, rfl, hr, hb⟩
theorem Duo.renc (h : Duo w B b c S) :
    Calls Try.prog 32 #[.pointer (some ⟨c, 0, none⟩)] w fun e w2 => ∃ a cap, e = .returned (.slice a (encW S).length cap) ∧ Rd w2 a (encW S) ∧ Below w.heap.size w w2 := by
  obtain ⟨v, L, hR, hL⟩ := h.rf
  refine (rencode_at B c v L S w hR hL h.inv h.fit).mono ?_
  rintro e w2 ⟨u, rfl, ho, hb⟩
  obtain ⟨a, cap, rfl, _, hr⟩ := own_rd ho
  exact ⟨a, cap, rfl, hr, hb⟩
theorem Duo.enc (h : Duo w B b c S) :
    Calls Try.prog 25 #[.pointer (some ⟨b, 0, none⟩)] w fun e w2 => ∃ a cap, e = .returned (.slice a (encW S).length cap) ∧ Rd w2 a (encW S) ∧ (encW S).length ≤ cap ∧ Below w.heap.size w w2 := by
  refine (encode_at b S w h.fd h.inv h.fit).mono ?_
  rintro e w2 ⟨u, rfl, ho, hb⟩
  obtain ⟨a, cap, rfl, hc, hr⟩ := own_rd ho
  exact ⟨a, cap, rfl, hr, hc, hb⟩
theorem Duo.encLen (h : Duo w B b c S) : (encW S).length ≤ 1000 := by
  rw [encW_len]
  have := ord_len48 S.t
  omega
end
theorem idsA_len (S : FS) (k : Int) : (idsA S k).length ≤ 1000 := by
  have h1 : ∀ n, (idsTo S k n).length ≤ n := by
    intro n
    induction n with
    | zero => simp [idsTo]
    | succ n ih =>
      simp only [idsTo]
      split
      · rw [List.length_append]; simp; exact ih
      · omega
  have h2 := h1 32
  have h3 : (idsA S k).length ≤ (idsTo S k 32).length := by
    unfold idsA
    refine Nat.le_trans (Lib.compact_length_le _) ?_
    rw [List.length_mergeSort]
    exact Nat.le_refl _
  omega
theorem file_eq (x : Fl) (W : World) : (binOp .eql 30 (.agg x.row) (.agg x.row)).run Try.prog W = .ok (.bool true) W := by
  unfold Fl.row
  go_simp
theorem Box.ru {w w' : World} {B D : Nat} {d : Deed} (h : Box w D d) (hu : RU B w w') : Box w' D d := hu.other _ _ _ _ h (by decide) (by decide)
theorem Box.updF {w w' : World} {b D : Nat} {d : Deed} {S : FS} (h : Box w D d) (hu : Upd b w w') (hf : FdAt w b S) : Box w' D d := by
  refine h.upd hu ?_
  rintro rfl
  obtain ⟨row, hr, _⟩ := hf.head
  unfold Box at h
  rw [h] at hr
  simp only [Option.some.injEq, Obj.cells.injEq] at hr
  exact absurd hr.2.1 (by decide)
/-- A file's box. -/
def FB (w : World) (X : Nat) (x : Fl) : Prop := w.heap[X]? = some (.cells x.row 30)
theorem FB.ru {w w' : World} {B X : Nat} {x : Fl} (h : FB w X x) (hu : RU B w w') : FB w' X x := hu.other _ _ _ _ h (by decide) (by decide)
theorem FB.below {w w' : World} {X : Nat} {x : Fl} (h : FB w X x) (hb : Below w.heap.size w w') : FB w' X x := (hb.block X (lt_of_heap h)).trans h
/-- Files that can be read. -/
def FlR (w : World) (a : Option Addr) (G : List Fl) : Prop := ∀ j x, G[j]? = some x → ∃ g, a = some ⟨g, 0, none⟩ ∧ ∀ k, k < 5 → w.cell? ⟨g, j * 5 + k, none⟩ = some (x.get k)
theorem FlR.of_own {w : World} {B : Nat} {v : Value} {G : List Fl} (h : w.ownsRow B 30 5 v G.length (fls G)) : ∃ a cap, v = .slice a G.length cap ∧ FlR w a G := by
  rcases h.2 with ⟨rfl, e2⟩ | ⟨g, cap, cur, rfl, _, hh, _, _, _, ht⟩
  · have : G = [] := List.eq_nil_of_length_eq_zero e2
    subst this
    exact ⟨none, 0, rfl, fun j x hx => by simp at hx⟩
  · refine ⟨_, cap, rfl, fun j x hx => ⟨g, rfl, fun k hk => ?_⟩⟩
    have hj : j < G.length := (List.getElem?_eq_some_iff.1 hx).1
    have hq := fls_get G j k x hx hk
    rw [cell_of_heap hh]
    rw [← ht, List.getElem?_take_of_lt (by omega)] at hq
    simpa using hq
theorem FlR.below {w w' : World} {a : Option Addr} {G : List Fl} (h : FlR w a G) (hb : Below w.heap.size w w') : FlR w' a G := by
  intro j x hx
  obtain ⟨g, e, hc⟩ := h j x hx
  exact ⟨g, e, fun k hk => (hb.cell (cell_lt (hc k hk))).trans (hc k hk)⟩
/-- May a file be opened? -/
def fitB (x : Fl) : Bool := decide (1 ≤ x.kind) && decide (x.kind ≤ 4) && decide (0 ≤ x.id) && decide (x.id ≤ 1048576) && decide (0 ≤ x.off) && decide (x.off ≤ 1048576)
theorem fitB_fit {x : Fl} (h : fitB x = true) : Fit x := by
  unfold fitB at h
  simp only [Bool.and_eq_true, decide_eq_true_eq] at h
  obtain ⟨⟨⟨⟨⟨h1, h2⟩, h3⟩, h4⟩, h5⟩, h6⟩ := h
  exact ⟨h1, h2, h3, h4, h5, h6⟩
set_option maxHeartbeats 4000000 in
theorem fit_at (x : Fl) (w : World) :
    Calls Try.prog 9 #[.agg x.row] w fun e w' => e = .returned (.bool (fitB x)) ∧ Below w.heap.size w w' := by
  have hb := below_alloc w (.cells x.row 30)
  obtain ⟨xk, xi, xo, xa, xr⟩ := x
  dsimp only [Fl.row] at *
  by_cases h1 : 1 ≤ xk
  · by_cases h2 : xk ≤ 4
    · by_cases h3 : 0 ≤ xi
      · by_cases h4 : xi ≤ 1048576
        · by_cases h5 : 0 ≤ xo
          · have g1 : decide (1 ≤ xk) = true := decide_eq_true h1
            have g2 : decide (xk ≤ 4) = true := decide_eq_true h2
            have g3 : decide (0 ≤ xi) = true := decide_eq_true h3
            have g4 : decide (xi ≤ 1048576) = true := decide_eq_true h4
            have g5 : decide (0 ≤ xo) = true := decide_eq_true h5
            have HE : Hid (fitB ⟨xk, xi, xo, xa, xr⟩ = decide (xo ≤ 1048576)) := by show _ = _; simp [fitB, h1, h2, h3, h4, h5]
            go_enter Try.func9, Try.ntmps9
            go_wp2
            go_ret
            exact ⟨by rw [HE.out]; rfl, hb⟩
          · have g1 : decide (1 ≤ xk) = true := decide_eq_true h1
            have g2 : decide (xk ≤ 4) = true := decide_eq_true h2
            have g3 : decide (0 ≤ xi) = true := decide_eq_true h3
            have g4 : decide (xi ≤ 1048576) = true := decide_eq_true h4
            have g5 : decide (0 ≤ xo) = false := decide_eq_false h5
            have HE : Hid (fitB ⟨xk, xi, xo, xa, xr⟩ = false) := by show _ = _; simp [fitB, h5]
            go_enter Try.func9, Try.ntmps9
            go_wp2
            go_ret
            exact ⟨by rw [HE.out]; rfl, hb⟩
        · have g1 : decide (1 ≤ xk) = true := decide_eq_true h1
          have g2 : decide (xk ≤ 4) = true := decide_eq_true h2
          have g3 : decide (0 ≤ xi) = true := decide_eq_true h3
          have g4 : decide (xi ≤ 1048576) = false := decide_eq_false h4
          have HE : Hid (fitB ⟨xk, xi, xo, xa, xr⟩ = false) := by show _ = _; simp [fitB, h4]
          go_enter Try.func9, Try.ntmps9
          go_wp2
          go_ret
          exact ⟨by rw [HE.out]; rfl, hb⟩
      · have g1 : decide (1 ≤ xk) = true := decide_eq_true h1
        have g2 : decide (xk ≤ 4) = true := decide_eq_true h2
        have g3 : decide (0 ≤ xi) = false := decide_eq_false h3
        have HE : Hid (fitB ⟨xk, xi, xo, xa, xr⟩ = false) := by show _ = _; simp [fitB, h3]
        go_enter Try.func9, Try.ntmps9
        go_wp2
        go_ret
        exact ⟨by rw [HE.out]; rfl, hb⟩
    · have g1 : decide (1 ≤ xk) = true := decide_eq_true h1
      have g2 : decide (xk ≤ 4) = false := decide_eq_false h2
      have HE : Hid (fitB ⟨xk, xi, xo, xa, xr⟩ = false) := by show _ = _; simp [fitB, h2]
      go_enter Try.func9, Try.ntmps9
      go_wp2
      go_ret
      exact ⟨by rw [HE.out]; rfl, hb⟩
  · have g1 : decide (1 ≤ xk) = false := decide_eq_false h1
    have HE : Hid (fitB ⟨xk, xi, xo, xa, xr⟩ = false) := by show _ = _; simp [fitB, h1]
    go_enter Try.func9, Try.ntmps9
    go_wp2
    go_ret
    exact ⟨by rw [HE.out]; rfl, hb⟩
theorem rl_zero : RL [] FS.zero := by
  unfold RL refL
  have : ord FS.zero.t = [] := by kernel_rfl
  rw [this]
  rfl
end Go.Proofs.Ytkdbmfckfbmbiaa
