/- What the cache and the disk tell of a block, and what Put, Get and Sync leave of it (no program). -/
import Derived.Test.YtfnafjddajgahabXdM
namespace Go.Proofs.Ytfnafjddajgahab
open Go.RowKit Ca
set_option linter.unusedVariables false

/-- A line that is not changed has what the disk has. -/
def Tidy (n : Nat) (l : Lines) (vs : List Int) : Prop := ∀ i, i < n → ∀ ws, (l i).1 = some ws → (l i).2 = false → frameOf vs i = ws
theorem Tidy.zero (n : Nat) (vs : List Int) : Tidy n (fun _ => (none, false)) vs := fun i _ ws h _ => (by cases h)
theorem Tidy.put {n : Nat} {l : Lines} {vs : List Int} (h : Tidy n l vs) (b : Nat) (ws : List Int) : Tidy n (putL l b ws) vs := by
  intro i hi w1 h1 h2
  unfold putL at h1 h2
  by_cases e : i = b
  · subst e; rw [Lines.set_same] at h2; cases h2
  · rw [Lines.set_other _ _ _ _ e] at h1 h2; exact h i hi w1 h1 h2
theorem Tidy.get {n : Nat} {l : Lines} {vs : List Int} (h : Tidy n l vs) (b : Nat) : Tidy n (getL l vs b) vs := by
  intro i hi w1 h1 h2
  unfold getL at h1 h2
  by_cases e : i = b
  · subst e
    rw [Lines.set_same] at h1 h2
    unfold lookW at h1
    cases hl : (l i).1 with
    | none => rw [hl] at h1; cases h1; rfl
    | some ws => rw [hl] at h1; cases h1; exact h i hi _ hl h2
  · rw [Lines.set_other _ _ _ _ e] at h1 h2; exact h i hi w1 h1 h2
theorem Tidy.sync {n : Nat} {l : Lines} {vs : List Int} (h : Tidy n l vs) (hl : LInv n l) (hv : vs.length = n * 32) : Tidy n (syncL l n) (syncV l vs n) := by
  intro i hi ws h1 h2
  rw [syncV_frame hl hv i hi n (by omega)]
  unfold syncL at h1
  rw [if_pos hi] at h1
  by_cases hc : (l i).2 = true
  · rw [if_pos ⟨hi, hc⟩, show (l i).1 = some ws from h1]; rfl
  · rw [if_neg (fun q => hc q.2)]
    exact h i hi ws h1 (by simpa using hc)
theorem look_put (l : Lines) (vs : List Int) (b : Nat) (ws : List Int) (i : Nat) : lookW (putL l b ws) vs i = if i = b then ws else lookW l vs i := by
  unfold lookW putL
  by_cases e : i = b
  · subst e; rw [Lines.set_same, if_pos rfl]; rfl
  · rw [Lines.set_other _ _ _ _ e, if_neg e]
theorem look_get (l : Lines) (vs : List Int) (b i : Nat) : lookW (getL l vs b) vs i = lookW l vs i := by
  by_cases e : i = b
  · subst e
    show ((getL l vs i) i).1.getD _ = _
    unfold getL
    rw [Lines.set_same]
    rfl
  · unfold lookW getL
    rw [Lines.set_other _ _ _ _ e]
theorem look_sync {n : Nat} {l : Lines} {vs : List Int} (hl : LInv n l) (hv : vs.length = n * 32) (i : Nat) (hi : i < n) : lookW (syncL l n) (syncV l vs n) i = lookW l vs i := by
  have h1 : (syncL l n i).1 = (l i).1 := by unfold syncL; rw [if_pos hi]
  unfold lookW
  rw [h1]
  cases hc : (l i).1 with
  | some ws => rfl
  | none =>
    show frameOf (syncV l vs n) i = frameOf vs i
    rw [syncV_frame hl hv i hi n (by omega), if_neg]
    intro q
    have := hl.ch i hi q.2
    rw [hc] at this
    cases this
/-- Behind a Sync the disk has what the cache told. -/
theorem disk_sync {n : Nat} {l : Lines} {vs : List Int} (h : Tidy n l vs) (hl : LInv n l) (hv : vs.length = n * 32) (i : Nat) (hi : i < n) : frameOf (syncV l vs n) i = lookW l vs i := by
  rw [syncV_frame hl hv i hi n (by omega)]
  unfold lookW
  by_cases hc : (l i).2 = true
  · rw [if_pos ⟨hi, hc⟩]
    have := hl.ch i hi hc
    cases hs : (l i).1 with
    | none => rw [hs] at this; cases this
    | some ws => rfl
  · rw [if_neg (fun q => hc q.2)]
    cases hs : (l i).1 with
    | none => rfl
    | some ws => exact h i hi ws hs (by simpa using hc)
theorem syncN_none {l : Lines} : ∀ {k : Nat}, (∀ i, i < k → (l i).2 = false) → syncN l k = 0
  | 0, _ => rfl
  | k + 1, h => by
    unfold syncN
    rw [h k (by omega)]
    exact syncN_none (fun i hi => h i (by omega))
theorem sync_sync (l : Lines) (n : Nat) : syncN (syncL l n) n = 0 := syncN_none (fun i hi => by unfold syncL; rw [if_pos hi])
end Go.Proofs.Ytfnafjddajgahab
