/- A raw call that answers an error leaves all that anybody sees (plain data). -/
import Derived.Test.YtbhpafgoofkkmaaGreatDoorXoK
import Derived.Test.YtbhpafgoofkkmaaGreatDoorXoSees
namespace Go.Proofs.YtbhpafgoofkkmaaGreatDoor
open Go.RowKit
set_option linter.unusedVariables false

/-- The same for everybody who looks. -/
structure Alike (S S' : XS) : Prop where
  n : S'.n = S.n
  vs : S'.vs = S.vs
  T : S'.T = S.T
  F : ∀ e, e < 12 → S'.F e = S.F e
  E : S'.E = S.E
  Q : S'.Q = S.Q
  d : S'.d = S.d
  ds : S'.ds = S.ds
  l : S'.l = S.l
  C : S'.C = S.C
theorem Alike.rfl' (S : XS) : Alike S S := ⟨rfl, rfl, rfl, fun _ _ => rfl, rfl, rfl, rfl, rfl, rfl, rfl⟩
theorem Alike.mv (S : XS) (m : Nat) : Alike S (S.mv m) := ⟨rfl, rfl, rfl, fun _ _ => rfl, rfl, rfl, rfl, rfl, rfl, rfl⟩
theorem Alike.trans {S S' S'' : XS} (h : Alike S S') (h' : Alike S' S'') : Alike S S'' :=
  ⟨h'.n.trans h.n, h'.vs.trans h.vs, h'.T.trans h.T, fun e he => (h'.F e he).trans (h.F e he), h'.E.trans h.E, h'.Q.trans h.Q, h'.d.trans h.d, h'.ds.trans h.ds, h'.l.trans h.l, h'.C.trans h.C⟩
theorem kpage_same {F F' : Ex.Pages} (h : ∀ e, e < 12 → F' e = F e) (e p : Int) : Ex.kpageV F' e p = Ex.kpageV F e p := by
  unfold Ex.kpageV
  by_cases he : Ca.isE e = true
  · rw [if_pos he, if_pos he]
    obtain ⟨m, rfl, hm⟩ := Ex.isE_nat he
    rw [Int.toNat_natCast, h m hm]
  · rw [if_neg he, if_neg he]
theorem seesP_same {F F' : Ex.Pages} (h : ∀ e, e < 12 → F' e = F e) (e : Int) : ∀ k, seesP F' e k = seesP F e k
  | 0 => rfl
  | k + 1 => by
    unfold seesP pageP
    rw [seesP_same h e k, kpage_same h]
theorem Alike.sees {S S' : XS} (h : Alike S S') (e : Int) : seesV S' e = seesV S e := by
  unfold seesV
  rw [h.E, h.n, h.T, h.vs, h.l, h.ds, h.C, h.Q, seesP_same h.F]
theorem Alike.frame {S S' : XS} (h : Alike S S') (f : Int) : frmW S'.n S'.vs f = frmW S.n S.vs f := by rw [h.n, h.vs]
theorem Alike.block {S S' : XS} (h : Alike S S') (b : Int) : Xd.wordsW S'.d S'.l S'.ds b = Xd.wordsW S.d S.l S.ds b := by rw [h.d, h.l, h.ds]

theorem ans_err {e : Int} (h : e ≠ 0) (ws : List Int) : ansW e ws = [] := by unfold ansW; rw [if_neg h]
theorem putT_err {T : Ca.Tab} {m : Nat} {H : Ca.Hd} (h : Ca.putE T m ≠ 0) : Ca.putT T m H = T := by
  unfold Ca.putE at h
  unfold Ca.putT
  split at h
  · exact absurd rfl h
  · rename_i hf
    rw [if_neg hf]
theorem giveT_err {T : Ca.Tab} {e s q r : Int} (h : Ca.giveR T e s q r ≠ 0) : Ca.giveT T e s q r = T := by
  unfold Ca.giveR at h
  unfold Ca.giveT
  split
  · rename_i h1
    rw [if_pos h1] at h
    split
    · rename_i h2
      rw [if_pos h2] at h
      exact putT_err h
    · rfl
  · rfl
theorem allocT_err {T : Ca.Tab} {n : Nat} {e : Int} {vs : List Int} (h : Ex.allocR T n e ≠ 0) : Ex.allocT T n e = T ∧ Ex.allocV T n e vs = vs := by
  unfold Ex.allocR at h
  unfold Ex.allocT Ex.allocV
  split
  · rename_i h1
    rw [if_pos h1] at h
    split
    · exact ⟨rfl, rfl⟩
    · rename_i h2
      rw [if_neg h2] at h
      refine ⟨putT_err h, ?_⟩
      unfold Ca.putE at h
      split
      · rename_i h3
        rw [if_pos h3] at h
        exact absurd rfl h
      · rfl
  · exact ⟨rfl, rfl⟩
theorem xallocT_err {T : Ca.Tab} {n : Nat} {e f k : Int} (h : Xd.xallocR T n e f k ≠ 0) : Xd.xallocT T n e f k = T := by
  unfold Xd.xallocR at h
  unfold Xd.xallocT
  split
  · rename_i h1
    rw [if_pos h1] at h
    split
    · rfl
    · rename_i h2
      rw [if_neg h2] at h
      unfold Ca.addR at h
      unfold Ca.addT
      split
      · rename_i h3
        rw [if_pos h3] at h
        exact putT_err h
      · rfl
  · rfl
theorem putW_err {n : Nat} {vs : List Int} {f k v : Int} (h : Me.errW n f k ≠ 0) : Me.putW n vs f k v = vs := by
  unfold Me.errW at h
  unfold Me.putW
  split
  · rename_i h1
    rw [if_pos h1] at h
    exact absurd rfl h
  · rfl
theorem putC_err {n : Nat} {vs : List Int} {f k : Int} (h : Me.errC n f k ≠ 0) : Me.putC n vs f k = vs := by
  unfold Me.errC at h
  unfold Me.putC
  split
  · rename_i h1
    rw [if_pos h1] at h
    exact absurd rfl h
  · rfl
theorem tidy_same {T : Ca.Tab} {F : Ex.Pages} (h : ∀ e, e < 12 → ∀ p x, F e p = some x → Ex.holdB T e x = true) (e : Nat) (he : e < 12) : Ex.tidyF T F e = F e := by
  funext p
  unfold Ex.tidyF Ex.tidy1
  cases hx : F e p with
  | none => rfl
  | some x =>
    dsimp only
    rw [if_pos (h e he p x hx)]
theorem setF_self (F : Ex.Pages) (e : Nat) : Ex.setF F e (F e) = F := by
  funext i
  unfold Ex.setF
  split
  · rename_i h
    rw [h]
  · rfl
theorem kmapF_err {T : Ca.Tab} {F : Ex.Pages} {e p s : Int} {b : Bool} (h : Ex.kmapR T e p s b ≠ 0) : Ex.kmapF T F e p s b = F := by
  unfold Ex.kmapR at h
  unfold Ex.kmapF
  split
  · rename_i h1
    rw [if_pos h1] at h
    cases hf : Ex.frm T e s (Ex.prt b) with
    | none => rfl
    | some f =>
      rw [hf] at h
      exact absurd rfl h
  · rfl
theorem kunmapF_err {F : Ex.Pages} {e p : Int} (hn : ∀ e, e < 12 → ∀ k x, F e k = some x → 0 ≤ k ∧ k < 4) (h : Ex.kunmapR F e p ≠ 0) : Ex.kunmapF F e p = F := by
  unfold Ex.kunmapR at h
  unfold Ex.kunmapF
  split
  · rename_i h1
    rw [if_pos h1] at h
    have hz : F e.toNat p = none := by
      unfold Mu.unmapV at h
      cases hx : F e.toNat p with
      | none => rfl
      | some x =>
        obtain ⟨h2, h3⟩ := hn e.toNat (isE_lt h1) p x hx
        have hp : Mu.isPg p = true := by simp [Mu.isPg, h2, h3]
        rw [if_pos hp, hx] at h
        exact absurd rfl h
    rw [Mu.unmapF_none hz, setF_self]
  · rfl
theorem kstoreV_err {n : Nat} {vs : List Int} {F : Ex.Pages} {e a v : Int} (h : Ex.kstoreR n F e a ≠ 0) : Ex.kstoreV n vs F e a v = vs := by
  unfold Ex.kstoreR at h
  unfold Ex.kstoreV
  split
  · rename_i h1
    rw [if_pos h1] at h
    split
    · rename_i h2
      rw [if_pos h2] at h
      exact putW_err h
    · rfl
  · rfl
theorem kcopyV_err {T : Ca.Tab} {n : Nat} {vs : List Int} {e a b : Int} (h : Ex.kcopyR T n e a b ≠ 0) : Ex.kcopyV T n vs e a b = vs := by
  unfold Ex.kcopyR at h
  unfold Ex.kcopyV
  cases h1 : Ex.frm T e a 2 with
  | none => rfl
  | some f =>
    cases h2 : Ex.frm T e b 1 with
    | none => rfl
    | some g =>
      rw [h1, h2] at h
      exact putC_err h
theorem kwriteV_err {T : Ca.Tab} {n : Nat} {vs : List Int} {e s k v : Int} (h : Ex.kwriteR T n e s k ≠ 0) : Ex.kwriteV T n vs e s k v = vs := by
  unfold Ex.kwriteR at h
  unfold Ex.kwriteV
  cases h1 : Ex.frm T e s 2 with
  | none => rfl
  | some f =>
    rw [h1] at h
    exact putW_err h
theorem is_err {T : Ca.Tab} {e s : Int} (h : (if (Ca.getT T e s).is = true then (0 : Int) else 104) ≠ 0) : ¬ (Ca.getT T e s).is = true := by
  intro hi
  rw [if_pos hi] at h
  exact h rfl
theorem Alike.pages {S : XS} {vs : List Int} {T : Ca.Tab} {F : Ex.Pages} (h1 : vs = S.vs) (h2 : T = S.T) (h3 : ∀ e, e < 12 → F e = S.F e) : Alike S { S with vs := vs, T := T, F := F } := ⟨rfl, h1, h2, h3, rfl, rfl, rfl, rfl, rfl, rfl⟩
theorem Alike.disk {S : XS} {m : Nat} {l : Xd.Lines} {C : Ca.Tab} (h1 : l = S.l) (h2 : C = S.C) : Alike S { S with m := m, ds := S.ds, l := l, C := C } := ⟨rfl, rfl, rfl, fun _ _ => rfl, rfl, rfl, rfl, rfl, h1, h2⟩
theorem Alike.talk {S : XS} {Q : Ip.QS} (h : Q = S.Q) : Alike S { S with Q := Q } := ⟨rfl, rfl, rfl, fun _ _ => rfl, rfl, h, rfl, rfl, rfl, rfl⟩
theorem rawO_err {S : XS} (hX : XI S) (hn : ∀ e, e < 12 → ∀ k x, S.F e k = some x → 0 ≤ k ∧ k < 4) (e : Int) (r : Rqt) (a' : Option Addr) (c' : Nat) (he : (rawO S e r a' c').2.2 ≠ 0) : Alike S (rawO S e r a' c').1 ∧ (rawO S e r a' c').2.1 = [] := by
  unfold rawO at he ⊢
  split at he <;> (try dsimp only at he) <;> (try dsimp only)
  · obtain ⟨h1, h2⟩ := allocT_err (vs := S.vs) he
    exact ⟨Alike.pages h2 h1 (fun _ _ => rfl), ans_err he _⟩
  · split at he <;> rename_i hb
    · rw [if_pos hb]
      exact ⟨Alike.pages rfl (giveT_err he) (fun _ _ => rfl), ans_err he _⟩
    · rw [if_neg hb]
      exact ⟨Alike.rfl' S, rfl⟩
  · have h1 : Ca.dropT S.T e r.a = S.T := by
      unfold Ca.dropT
      exact if_neg (is_err he)
    rw [h1]
    exact ⟨Alike.pages rfl rfl (tidy_same hX.tidy), rfl⟩
  · have h1 : Ex.revT S.T e r.a = S.T := by
      unfold Ex.revT
      exact if_neg (is_err he)
    rw [h1]
    exact ⟨Alike.pages rfl rfl (tidy_same hX.tidy), rfl⟩
  · split at he <;> rename_i hb
    · rw [if_pos hb]
      exact ⟨Alike.pages rfl rfl (fun i _ => by rw [kmapF_err he]), rfl⟩
    · rw [if_neg hb]
      exact ⟨Alike.rfl' S, rfl⟩
  · exact ⟨Alike.pages rfl rfl (fun i _ => by rw [kunmapF_err hn he]), rfl⟩
  · exact ⟨Alike.rfl' S, ans_err he _⟩
  · exact ⟨Alike.pages (kstoreV_err he) rfl (fun _ _ => rfl), rfl⟩
  · exact ⟨Alike.pages (kcopyV_err he) rfl (fun _ _ => rfl), rfl⟩
  · exact ⟨Alike.rfl' S, ans_err he _⟩
  · exact ⟨Alike.pages (kwriteV_err he) rfl (fun _ _ => rfl), rfl⟩
  · split at he <;> rename_i hb
    · rw [if_pos hb]
      exact ⟨Alike.talk (Ip.sendQ_no he), rfl⟩
    · rw [if_neg hb]
      exact ⟨Alike.rfl' S, rfl⟩
  · cases hq : Ip.qat S.Q e with
    | nil => exact ⟨Alike.rfl' S, rfl⟩
    | cons m R =>
      rw [hq] at he
      exact absurd rfl he
  · exact ⟨Alike.disk rfl (xallocT_err he), ans_err he _⟩
  · split at he <;> rename_i hb
    · rw [if_pos hb]
      exact ⟨Alike.disk rfl (giveT_err he), ans_err he _⟩
    · rw [if_neg hb]
      exact ⟨Alike.rfl' S, rfl⟩
  · refine ⟨Alike.disk rfl ?_, rfl⟩
    unfold Xd.revT
    exact if_neg (is_err he)
  · have hm : ¬ Xd.mayX S.C e r.a r.b 1 = true := by
      intro q
      unfold Xd.getRr at he
      rw [if_pos q] at he
      exact he rfl
    refine ⟨Alike.disk ?_ rfl, ?_⟩
    · unfold Xd.getLl
      exact if_neg hm
    · unfold Xd.getWw
      exact if_neg hm
  · refine ⟨Alike.disk ?_ rfl, rfl⟩
    unfold Xd.putRr at he
    unfold Xd.putLl
    split
    · rename_i h1
      rw [if_pos h1] at he
      split
      · rename_i h2
        rw [if_pos h2] at he
        exact absurd rfl he
      · rfl
    · rfl
theorem rawS_err {S : XS} (hX : XI S) (hn : ∀ e, e < 12 → ∀ k x, S.F e k = some x → 0 ≤ k ∧ k < 4) (e : Int) (ws : List Int) (a' : Option Addr) (c' : Nat) (he : (rawS S e ws a' c').2.2 ≠ 0) : Alike S (rawS S e ws a' c').1 ∧ (rawS S e ws a' c').2.1 = [] := by
  unfold rawS at he ⊢
  split at he <;> rename_i hb
  · rw [if_pos hb]
    cases hr : reqOf ws with
    | none => exact ⟨Alike.rfl' S, rfl⟩
    | some r =>
      rw [hr] at he
      exact rawO_err hX hn e r a' c' he
  · rw [if_neg hb]
    exact ⟨Alike.rfl' S, rfl⟩
end Go.Proofs.YtbhpafgoofkkmaaGreatDoor
