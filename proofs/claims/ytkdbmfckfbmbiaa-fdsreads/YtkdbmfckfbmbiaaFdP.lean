/- Words as open files and descriptors: plain. -/
import Derived.Test.YtkdbmfckfbmbiaaFdI
namespace Go.Proofs.Ytkdbmfckfbmbiaa
open Go.RowKit
set_option linter.unusedVariables false

/-- May four words be a file? -/
def okF (a b c d : Int) : Bool := decide (1 ≤ a) && decide (a ≤ 4) && decide (b ≤ 1048576) && decide (c ≤ 1048576) && decide (d ≤ 1)
def flOf (a b c d : Int) : Fl := ⟨a, b, c, d == 1, 0⟩
/-- The file that four words from a place on are. -/
def flAt (xs : List Int) (i : Nat) : Fl := flOf (xs.getD (i * 4) 0) (xs.getD (i * 4 + 1) 0) (xs.getD (i * 4 + 2) 0) (xs.getD (i * 4 + 3) 0)
def okAt (xs : List Int) (i : Nat) : Bool := okF (xs.getD (i * 4) 0) (xs.getD (i * 4 + 1) 0) (xs.getD (i * 4 + 2) 0) (xs.getD (i * 4 + 3) 0)
/-- The first k files are read. -/
def filesTo (xs : List Int) : Nat → FS
  | 0 => FS.zero
  | k + 1 => (filesTo xs k).setF k (flAt xs k)
theorem filesTo_t (xs : List Int) : ∀ k, (filesTo xs k).t = fun _ => 0
  | 0 => rfl
  | k + 1 => filesTo_t xs k
theorem filesTo_f (xs : List Int) : ∀ k i, (filesTo xs k).f i = if i < k then flAt xs i else Fl.no
  | 0, i => by rw [if_neg (by omega)]; rfl
  | k + 1, i => by
    show ((filesTo xs k).setF k (flAt xs k)).f i = _
    by_cases e : i = k
    · subst e
      rw [FS.setF_same, if_pos (by omega)]
    · rw [FS.setF_other _ _ _ _ e, filesTo_f xs k i]
      by_cases h : i < k
      · rw [if_pos h, if_pos (by omega)]
      · rw [if_neg h, if_neg (by omega)]
theorem filesTo_refs (xs : List Int) (k i : Nat) : ((filesTo xs k).f i).refs = 0 := by
  rw [filesTo_f]
  split <;> rfl
theorem filesTo_inv (xs : List Int) (k : Nat) : Inv (filesTo xs k) :=
  Inv.zero.same (filesTo_t xs k) (fun p _ => filesTo_refs xs k p)
/-- One name is read. -/
def nmStep (S : FS) (i q : Nat) : FS := if q = 0 then S.setT i q else (S.setT i q).addR (q - 1) 1
def namesTo (S : FS) (ys : List Int) : Nat → FS
  | 0 => S
  | k + 1 => nmStep (namesTo S ys k) k (ys.getD k 0).toNat
theorem nmStep_t (S : FS) (i q j : Nat) : (nmStep S i q).t j = if j = i then q else S.t j := by
  unfold nmStep
  split
  · rfl
  · rfl
theorem namesTo_t {S : FS} (hS : S.t = fun _ => 0) (ys : List Int) : ∀ k j, (namesTo S ys k).t j = if j < k then (ys.getD j 0).toNat else 0
  | 0, j => by rw [if_neg (by omega)]; show S.t j = 0; rw [hS]
  | k + 1, j => by
    show (nmStep (namesTo S ys k) k (ys.getD k 0).toNat).t j = _
    rw [nmStep_t, namesTo_t hS ys k j]
    by_cases e : j = k
    · rw [if_pos e, if_pos (by omega), e]
    · rw [if_neg e]
      by_cases h : j < k
      · rw [if_pos h, if_pos (by omega)]
      · rw [if_neg h, if_neg (by omega)]
theorem namesTo_inv {S : FS} (hI : Inv S) (hS : S.t = fun _ => 0) (ys : List Int) : ∀ k, k ≤ 48 → (∀ j, j < k → (ys.getD j 0).toNat ≤ 32) → Inv (namesTo S ys k)
  | 0, _, _ => hI
  | k + 1, hk, h => by
    have ih := namesTo_inv hI hS ys k (by omega) (fun j hj => h j (by omega))
    have hq := h k (by omega)
    have h0 : (namesTo S ys k).t k = 0 := by rw [namesTo_t hS, if_neg (by omega)]
    show Inv (nmStep (namesTo S ys k) k (ys.getD k 0).toNat)
    unfold nmStep
    split
    · rename_i e
      refine ih.set (k := k) (q := 0) (by omega) (by omega) (by rw [e]) (fun p hp => ?_)
      rw [h0]
      rfl
    · rename_i e
      exact ih.name2 (k := 0) (by omega) h0 e hq
/-- A file but for its count. -/
theorem nmStep_f (S : FS) (i q p : Nat) : ((nmStep S i q).f p).re 0 = (S.f p).re 0 := by
  unfold nmStep
  split
  · rfl
  · unfold FS.addR
    by_cases e : p = q - 1
    · rw [e, FS.setF_same]
      rfl
    · rw [FS.setF_other _ _ _ _ e]
      rfl
theorem namesTo_f (S : FS) (ys : List Int) (p : Nat) : ∀ k, ((namesTo S ys k).f p).re 0 = (S.f p).re 0
  | 0 => rfl
  | k + 1 => (nmStep_f _ _ _ _).trans (namesTo_f S ys p k)

/-- How many files the words tell of; the files' words; the names. -/
def wN (ws : List Int) : Nat := (ws.getD 0 0).toNat
def wF (ws : List Int) : List Int := (ws.take (1 + wN ws * 4)).drop 1
def wT (ws : List Int) : List Int := ws.drop (1 + wN ws * 4)
def decS (ws : List Int) : FS := namesTo (filesTo (wF ws) (wN ws)) (wT ws) 48
/-- How long they must be. -/
def okL (ws : List Int) : Bool := decide (1 ≤ ws.length) && decide (ws.getD 0 0 ≤ 32) && decide (ws.length = 1 + wN ws * 4 + 48)
def okFm (D : List Int) (n : Nat) : Bool := (List.range n).all (okAt D)
def okNm (D : List Int) (n : Nat) : Bool := (List.range 48).all (fun i => decide (D.getD i 0 ≤ (n : Int)))
def okFs (ws : List Int) : Bool := okFm (wF ws) (wN ws)
def okNs (ws : List Int) : Bool := okNm (wT ws) (wN ws)
def okO (ws : List Int) : Bool := (List.range 48).all (fun i => inO (decS ws).t i == (decS ws).t i) && decide ((ord (decS ws).t).length = wN ws)
def okW (ws : List Int) : Bool := okL ws && okFs ws && okNs ws && okO ws
end Go.Proofs.Ytkdbmfckfbmbiaa
