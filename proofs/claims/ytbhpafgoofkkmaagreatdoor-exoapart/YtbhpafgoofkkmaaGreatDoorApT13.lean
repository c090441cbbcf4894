/- Two exokernels side by side: raw calls and looks of either; rows of words that came in. -/
import Derived.Test.YtbhpafgoofkkmaaGreatDoorApM13
import Derived.Test.YtbhpafgoofkkmaaGreatDoorRxB
namespace Go.Proofs.YtbhpafgoofkkmaaGreatDoor
open Go.ChangeShapes Go.WideShapes Go.ChangeAt Go.RowKit Go.Lib Go.Joins
set_option linter.unusedVariables false

/-- Two exokernels. -/
structure Duo2 (W wr : World) (K K' : Nat) (L L' : XL) (k : Nat) (S M : XS) : Prop where
  a : RunAt W wr K L k S
  b : RunAt W wr K' L' k M
  ap : ∀ q, Feet L q → ¬ Feet L' q
section
variable {W wr w' : World} {K K' k : Nat} {L L' : XL} {S M : XS}
theorem Duo2.swap (h : Duo2 W wr K K' L L' k S M) : Duo2 W wr K' K L' L k M S := ⟨h.b, h.a, fun q h1 h2 => h.ap q h2 h1⟩
theorem Duo2.mono {k' : Nat} (h : Duo2 W wr K K' L L' k S M) (hk : k ≤ k') : Duo2 W wr K K' L L' k' S M := ⟨⟨h.a.ex, h.a.xi, Nat.le_trans h.a.m hk, h.a.d, h.a.bl⟩, ⟨h.b.ex, h.b.xi, Nat.le_trans h.b.m hk, h.b.d, h.b.bl⟩, h.ap⟩
theorem Duo2.below (h : Duo2 W wr K K' L L' k S M) (hb : Below wr.heap.size wr w') : Duo2 W w' K K' L L' k S M :=
  ⟨⟨h.a.ex.below hb, h.a.xi, h.a.m, h.a.d, h.a.bl.trans (hb.mono h.a.bl.size)⟩, ⟨h.b.ex.below hb, h.b.xi, h.b.m, h.b.d, h.a.bl.trans (hb.mono h.a.bl.size)⟩, h.ap⟩
/-- A raw call of the first that is no Send, where no message waits. -/
theorem duo_raw (h : Duo2 W wr K K' L L' k S M) (hF : Frm W) (hL : XLow L W.heap.size) (e : Int) (v : Value) (ws : List Int) (hv : ∀ w', XTch L True wr w' → RdV w' v ws) (hu : U64s ws) (hQ : ∀ j, S.Q j = []) (hw : ∀ x rest, ws = x :: rest → x ≠ 11) (hk : k ≤ 900000) :
    Calls Tryz.prog 9 #[ptr K, .int .i64 e, v] wr fun x w' => ∃ a n c a' c', x = .returned (.tuple #[.slice a n c, .int .i64 (rawS S e ws a' c').2.2]) ∧ URow wr.heap.size w' (.slice a n c) (rawS S e ws a' c').2.1 ∧ Duo2 W w' K K' L L' (k + 1) (rawS S e ws a' c').1 M ∧ XTch L False wr w' := by
  have hs := h.a.bl.size
  refine (rawx_at h.a.ex (hF.below (Frm.pos hF) h.a.bl) h.a.xi e v ws hv hu (Nat.le_trans h.a.m hk)).mono ?_
  rintro x w' ⟨a', c', _, a, n, c, rfl, hr, hE, ht0⟩
  have ht : XTch L False wr w' := ht0.mono (talks_no hQ hw)
  have hb : Below W.heap.size W w' := h.a.bl.trans (ht.below hL.f hL.x hL.i hs)
  have hS := rawS_same S e ws a' c'
  have hm := hS.m
  have hm1 := h.a.m
  have hm2 := h.b.m
  exact ⟨a, n, c, a', c', rfl, hr, ⟨⟨hE, h.a.xi.raw h.a.ex.mem.inv e ws hu a' c', by omega, hS.d.trans h.a.d, hb⟩, ⟨h.a.ex.aside h.b.ex ht h.ap, h.b.xi, by omega, h.b.d, hb⟩, h.ap⟩, ht⟩
/-- The first looks. -/
theorem duo_sees (h : Duo2 W wr K K' L L' k S M) (hL : XLow L W.heap.size) (e : Int) (hk : k ≤ 800000) :
    Calls Tryz.prog 12 #[ptr K, .int .i64 e] wr fun x w' => ∃ v m', x = .returned v ∧ URow wr.heap.size w' v (seesV S e) ∧ Duo2 W w' K K' L L' (k + 1024) (S.mv m') M ∧ XTch L False wr w' := by
  have hm1 := h.a.m
  have hm2 := h.b.m
  have hd := h.a.d
  refine (sees_at h.a.ex e (by omega)).mono ?_
  rintro x w' ⟨v, m', rfl, hr, hE, _, hm', hu⟩
  have ht : XTch L False wr w' := XTch.of_xfoot (Xd.updB hu)
  have hb : Below W.heap.size W w' := h.a.bl.trans (hu.below (hL.x _ (Or.inr (Or.inl rfl))) h.a.bl.size)
  exact ⟨v, m', rfl, hr, ⟨⟨hE, h.a.xi.mv m', by show m' ≤ _; omega, hd, hb⟩, ⟨h.a.ex.aside h.b.ex ht h.ap, h.b.xi, by omega, h.b.d, hb⟩, h.ap⟩, ht⟩
theorem XLow.mono {B B' : Nat} (h : XLow L B) (hb : B' ≤ B) : XLow L B' := ⟨fun k q => Nat.le_trans hb (h.f k q), fun k q => Nat.le_trans hb (h.x k q), Nat.le_trans hb h.i, Nat.le_trans hb h.e, Nat.le_trans hb h.g⟩
/-- Words that came in stay. -/
theorem Duo2.words (h : Duo2 W wr K K' L L' k S M) (hL : XLow L W.heap.size) {v : Value} {ws : List Int} (hv : RdV W v ws) : ∀ w', XTch L True wr w' → RdV w' v ws := fun w' ht => hv.below (h.a.bl.trans (ht.below hL.f hL.x hL.i h.a.bl.size))
end

/-- A raw call with words that were just laid. -/
theorem duo_lit {W wr : World} {K K' k : Nat} {L L' : XL} {S M : XS} (h : Duo2 W wr K K' L L' k S M) (hF : Frm W) (hL : XLow L W.heap.size) (e : Int) (ws : List Int) (n : Nat) (hn : ws.length = n) (hu : U64s ws) (hQ : ∀ j, S.Q j = []) (hw : ∀ x rest, ws = x :: rest → x ≠ 11) (hk : k ≤ 900000) (S' : XS) (hq : ∀ a' c', (rawS S e ws a' c').1 = S') :
    Calls Tryz.prog 9 #[ptr K, .int .i64 e, .slice (some ⟨wr.heap.size, 0, none⟩) n n] (wr.alloc (.cells (urow ws) 42)) fun x w' => ∃ a n c r, x = .returned (.tuple #[.slice a n c, .int .i64 r]) ∧ Duo2 W w' K K' L L' (k + 1) S' M := by
  have hb := Ca.below_alloc wr (.cells (urow ws) 42)
  have hD := h.below hb
  refine (duo_raw hD hF hL e _ ws (lit_rdv hD.a.ex (heap_alloc_new _ _) hn) hu hQ hw hk).mono ?_
  rintro x w' ⟨a, n, c, a', c', rfl, _, hD', _⟩
  rw [hq] at hD'
  exact ⟨a, n, c, _, rfl, hD'⟩
/-- How long an answer is. -/
theorem raw_len {w : World} {K : Nat} {L : XL} {S : XS} (h : ExoAt w K L S) (hQ : ∀ j, S.Q j = []) (e : Int) (ws : List Int) (a' : Option Addr) (c' : Nat) : (rawS S e ws a' c').2.1.length ≤ 1000000 := by
  have ha : ∀ (r x : Int), (ansW r [x]).length ≤ 1000000 := by
    intro r x
    unfold ansW
    split <;> simp
  unfold rawS
  split
  · cases hr : reqOf ws with
    | none => simp
    | some r =>
      show (rawO S e r a' c').2.1.length ≤ _
      unfold rawO
      split <;> first
        | exact ha _ _
        | (simp; done)
        | (split <;> first | exact ha _ _ | (simp; done))
        | skip
      · rw [qat_none hQ e]
        simp
      · show (Xd.getWw S.C S.l S.ds e r.a r.b).length ≤ _
        unfold Xd.getWw
        split
        · rename_i hm
          have hb := Xd.mayX_in h.disk.inv hm
          rw [Xd.lookW_len h.disk.linv h.disk.len (by omega)]
          omega
        · simp
  · simp
/-- The machines when environment 1 has its frames, and its extent. -/
def al : Nat → XS
  | 0 => wS 4
  | k + 1 => (rawS (al k) 1 [0] none 0).1
def al4 : XS := (rawS (al 3) 1 [13, 2, 2] none 0).1
theorem al_start : ∀ k, Start13 (al k)
  | 0 => ⟨Only1.zero, Only1.zero, fun _ => rfl⟩
  | k + 1 => (al_start k).zero
theorem al4_start : Start13 al4 := (al_start 3).ext

/-- Does a call join? -/
def joinB : List Int → Bool
  | [] => false
  | x :: _ => x == 1 || x == 11 || x == 14
/-- Is it passed over? -/
def passB : List Int → Bool
  | [] => true
  | x :: _ => (x == 1 || x == 11 || x == 14) || (x == 0 || x == 12 || x == 13)
theorem join_no {ws : List Int} (h : joinB ws = false) : ∀ x rest, ws = x :: rest → x ≠ 1 ∧ x ≠ 11 ∧ x ≠ 14 := by
  rintro x rest rfl
  simp only [joinB, Bool.or_eq_false_iff, beq_eq_false_iff_ne] at h
  exact ⟨h.1.1, h.1.2, h.2⟩
theorem pass_no {ws : List Int} (h : passB ws = false) : ∃ x rest, ws = x :: rest ∧ x ≠ 0 ∧ x ≠ 1 ∧ x ≠ 11 ∧ x ≠ 12 ∧ x ≠ 13 ∧ x ≠ 14 := by
  cases ws with
  | nil => cases h
  | cons x rest =>
    simp only [passB, Bool.or_eq_false_iff, beq_eq_false_iff_ne] at h
    obtain ⟨⟨⟨h1, h2⟩, h3⟩, ⟨h4, h5⟩, h6⟩ := h
    exact ⟨x, rest, rfl, h4, h1, h2, h5, h6, h3⟩
theorem joined_at (v : Value) (ws : List Int) (w : World) (hv : RdV w v ws) :
    Calls Tryz.prog 17 #[v] w fun x w' => x = .returned (.bool (joinB ws)) ∧ w' = w := by
  cases ws with
  | nil =>
    obtain ⟨a, c, rfl, _⟩ := hv
    go_enter Tryz.func17, Tryz.ntmps17
    go_wp2
    go_ret
    exact ⟨rfl, rfl⟩
  | cons x rest =>
    obtain ⟨g, o, c, rfl, hc⟩ := hv.has rest.length rfl
    have c0 : w.cell? ⟨g, o, none⟩ = some (.int .u64 x) := by simpa using hc 0 x rfl
    have HX : Hid (joinB (x :: rest) = (x == 1 || x == 11 || x == 14)) := rfl
    have g0 : (0 : Int) < ((rest.length + 1 : Nat) : Int) := by omega
    clear hc hv
    generalize joinB (x :: rest) = J at *
    generalize rest.length = N at *
    go_enter Tryz.func17, Tryz.ntmps17
    go_wp2
    all_goals
      go_ret
      refine ⟨Ca.ret_bool ?_, rfl⟩
      have hx := HX.out
      simp_all

/-- A slice at a0 holds so many rows of words. -/
def RowsAt (w : World) (a0 : Option Addr) (len : Nat) : Prop := ∀ j, j < len → ∃ gb off a cap ws, a0 = some ⟨gb, off, none⟩ ∧ w.cell? ⟨gb, off + j, none⟩ = some (.slice a ws.length cap) ∧ RdV w (.slice a ws.length cap) ws ∧ U64s ws
section
variable {H : Type} {enc : TypeId × Value → H} {w : World} {base : Nat} {held : Bool}
set_option maxRecDepth 100000 in
theorem rows_in {fuel len cap : Nat} {a0 : Option Addr} {x : DataW H × List MemPlace} (h : DataW.trod enc Tryz.prog w base (fun _ => true) held fuel 41 [.slice a0 len cap] = some x) :
    len ≤ 9223372036854775807 ∧ RowsAt w a0 len := by
  rcases Go.Deep.open_slice Tryz.underlying41 h with ⟨h0, _⟩ | ⟨a, len', cap', m, n, D, Pl, hcs, hb, hl1, hm, hmm, hx0, hx⟩
  · simp at h0
    obtain ⟨rfl, rfl, rfl⟩ := h0
    exact ⟨by omega, fun j hj => by omega⟩
  · simp at hcs
    obtain ⟨rfl, rfl, rfl⟩ := hcs
    refine ⟨by unfold maxLen at hm; omega, fun j hj => ?_⟩
    have hlm : len ≤ m := by rw [hmm]; split <;> omega
    have hc : Tryz.prog.cellsOf 27 = 1 := by kernel_rfl
    obtain ⟨cs', h1, h2⟩ := hx j (by omega)
    rw [hc] at h1
    obtain ⟨_, hlen, hcell⟩ := World.cells?_some h1
    obtain ⟨v, rfl⟩ : ∃ v, cs' = [v] := by
      match cs', hlen with
      | [v], _ => exact ⟨v, rfl⟩
    obtain ⟨av, cv, ws, rfl, hr, hu, _⟩ := words_in h2
    have hz : ∃ u, w.cell? a = some u := by
      obtain ⟨cs0, z1, _⟩ := hx 0 (by omega)
      rw [hc] at z1
      obtain ⟨_, zl, z2⟩ := World.cells?_some z1
      have z3 := z2 0 (by omega)
      rw [Go.Deep.add_add] at z3
      have z4 : w.cell? a = cs0[0]? := by simpa [Addr.add] using z3
      exact ⟨cs0[0]'(by omega), by rw [z4]; simp⟩
    obtain ⟨gb, off, spot⟩ := a
    obtain ⟨u, hu0⟩ := hz
    have hspot : spot = none := by simpa using World.cell?_spot hu0
    subst hspot
    have q := hcell 0 (by omega)
    rw [Go.Deep.add_add] at q
    simp only [Go.WideShapes.add_plain] at q
    refine ⟨gb, off, av, cv, ws, rfl, ?_, hr, hu⟩
    simpa using q
end
end Go.Proofs.YtbhpafgoofkkmaaGreatDoor
