import Derived.Test.YtbhpafgoofkkmaaGreatDoorXoJ
set_option linter.all false
namespace Go.Proofs.YtbhpafgoofkkmaaGreatDoor
open Go.RowKit
theorem cp_no {x : Ca.Cp} (h : x.is = false) : x = Ca.Cp.no := by
 obtain ⟨k, i, l, r⟩ := x
 simp [Ca.Cp.is] at h
 obtain ⟨⟨⟨rfl, rfl⟩, rfl⟩, rfl⟩ := h
 rfl
theorem hit_is {x : Ca.Cp} {I r : Int} (h : Ca.hitB x 1 I r = true) : x.is = true := by
 cases hi : x.is with
 | true => rfl
 | false =>
  rw [cp_no hi] at h
  simp [Ca.hitB, Ca.coversB] at h
theorem has_put {T : Ca.Tab} {m e : Nat} {H : Ca.Hd} {I r : Int} (h : Ca.hasN T e 1 I r = true) (hm : m < 12) (he : e < 12) : Ca.hasN (Ca.putT T m H) e 1 I r = true := by
 unfold Ca.putT
 split
 ·rename_i hf
  unfold Ca.hasN at h
  rw [List.any_eq_true] at h
  obtain ⟨s, hs, hh⟩ := h
  refine Ca.hasN_hit (s := s) (by simpa using hs) ?_
  have hne : e * 64 + s ≠ m * 64 + Ca.freeT T m := by
   intro q
   have h1 := hit_is hh
   rw [q, Ca.freeT_free T m hf] at h1
   cases h1
  rw [Ca.Tab.set_other _ _ _ _ hne]
  exact hh
 ·exact h
theorem hold_put {T : Ca.Tab} {m e : Nat} {H : Ca.Hd} {x : Int × Bool} (h : Ex.holdB T e x = true) (hm : m < 12) (he : e < 12) : Ex.holdB (Ca.putT T m H) e x = true := by
 unfold Ex.holdB Ca.hasB at *
 simp only [Bool.and_eq_true] at h ⊢
 exact ⟨h.1, by simpa using has_put (by simpa using h.2) hm he⟩
theorem isE_lt {e : Int} (h : Ca.isE e = true) : e.toNat < 12 := by
 obtain ⟨m, rfl, hm⟩ := Ex.isE_nat h
 simpa using hm
theorem frm_hold {T : Ca.Tab} {n : Nat} {e s f : Int} {b : Bool} (hK : Ex.KInv T n) (he : Ca.isE e = true) (h : Ex.frm T e s (Ex.prt b) = some f) : Ex.holdB T e.toNat (f, b) = true := by
 obtain ⟨m, rfl, hm⟩ := Ex.isE_nat he
 unfold Ex.frm at h
 split at h
 ·rename_i hc
  simp only [Bool.and_eq_true] at hc
  injection h with h
  obtain ⟨h1, h2, h3, h4, _⟩ := hK.get hc.1
  have hP : Ca.isP m s = true := Ca.is_isP hc.1
  obtain ⟨a, k, ea, ek, _, hk⟩ := Ca.isP_nat hP
  have ea' : a = m := by omega
  subst ea'
  subst ek
  rw [Ca.getT_nat T a k hm hk] at *
  unfold Ex.holdB Ca.hasB
  simp only [Bool.and_eq_true]
  refine ⟨by simpa using he, Ca.hasN_hit (s := k) hk ?_⟩
  simp only [Ca.hitB, Ca.coversB, Bool.and_eq_true, Int.toNat_natCast, beq_iff_eq, decide_eq_true_eq]
  exact ⟨⟨⟨h1, by omega⟩, by omega⟩, hc.2⟩
 ·cases h
structure Same (S S' : XS) : Prop where
 n : S'.n = S.n
 E : S'.E = S.E
 V : S'.V = S.V
 d : S'.d = S.d
 ds : S'.ds = S.ds
 m : S'.m ≤ S.m + 1
theorem Same.rfl' (S : XS) : Same S S := ⟨rfl, rfl, rfl, rfl, rfl, Nat.le_succ _⟩
theorem rawO_same (S : XS) (e : Int) (r : Rqt) (a' : Option Addr) (c' : Nat) : Same S (rawO S e r a' c').1 := by
 unfold rawO
 split <;> first
  | exact ⟨rfl, rfl, rfl, rfl, rfl, Nat.le_succ _⟩
  | exact ⟨rfl, rfl, rfl, rfl, rfl, Nat.le_refl _⟩
  | (split <;> exact ⟨rfl, rfl, rfl, rfl, rfl, Nat.le_succ _⟩)
theorem rawS_same (S : XS) (e : Int) (ws : List Int) (a' : Option Addr) (c' : Nat) : Same S (rawS S e ws a' c').1 := by
 unfold rawS
 split
 ·split
  ·exact Same.rfl' S
  ·exact rawO_same _ _ _ _ _
 ·exact Same.rfl' S
theorem tidy_of {T : Ca.Tab} {F : Ex.Pages} (e : Nat) (p : Int) (x : Int × Bool) (h : Ex.tidyF T F e p = some x) : Ex.holdB T e x = true := by
 unfold Ex.tidyF Ex.tidy1 at h
 split at h
 ·cases h
 ·split at h
  ·rename_i hh
   injection h with h
   subst h
   exact hh
  ·cases h
theorem XI.pages {S : XS} (h : XI S) {vs : List Int} {T : Ca.Tab} {F : Ex.Pages} (ht : ∀ e, e < 12 → ∀ p x, F e p = some x → Ex.holdB T e x = true) : XI { S with vs := vs, T := T, F := F } := ⟨ht, h.msg⟩
theorem XI.disk {S : XS} (h : XI S) {m : Nat} {ds : List Int} {l : Xd.Lines} {C : Ca.Tab} : XI { S with m := m, ds := ds, l := l, C := C } := ⟨h.tidy, h.msg⟩
theorem XI.rawO {S : XS} (h : XI S) (hK : Ex.KInv S.T S.n) (e : Int) (r : Rqt) (a' : Option Addr) (c' : Nat) (hr : RqOk r) : XI (rawO S e r a' c').1 := by
 unfold Go.Proofs.YtbhpafgoofkkmaaGreatDoor.rawO
 split
 ·refine h.pages (fun i hi p x hx => ?_)
  unfold Ex.allocT
  split
  ·rename_i he
   split
   ·exact h.tidy i hi p x hx
   ·exact hold_put (h.tidy i hi p x hx) (isE_lt he) hi
  ·exact h.tidy i hi p x hx
 ·split
  ·refine h.pages (fun i hi p x hx => ?_)
   unfold Ca.giveT
   split
   ·split
    ·rename_i he
     exact hold_put (h.tidy i hi p x hx) (isE_lt he) hi
    ·exact h.tidy i hi p x hx
   ·exact h.tidy i hi p x hx
  ·exact h
 ·exact h.pages (fun i hi p x hx => tidy_of i p x hx)
 ·exact h.pages (fun i hi p x hx => tidy_of i p x hx)
 ·split
  ·refine h.pages (fun i hi p x hx => ?_)
   unfold Ex.kmapF at hx
   split at hx
   ·rename_i hc
    simp only [Bool.and_eq_true] at hc
    cases hf : Ex.frm S.T e r.b (Ex.prt (r.d == 1)) with
    | none =>
     rw [hf] at hx
     exact h.tidy i hi p x hx
    | some f =>
     rw [hf] at hx
     dsimp only at hx
     by_cases e1 : i = e.toNat
     ·subst e1
      rw [Ex.setF_same] at hx
      unfold Mu.mapF at hx
      split at hx
      ·dsimp only at hx
       split at hx
       ·injection hx with hx
        subst hx
        exact frm_hold hK hc.1 hf
       ·exact h.tidy _ hi p x hx
      ·exact h.tidy _ hi p x hx
     ·rw [Ex.setF_other _ _ _ _ e1] at hx
      exact h.tidy i hi p x hx
   ·exact h.tidy i hi p x hx
  ·exact h
 ·refine h.pages (fun i hi p x hx => ?_)
  unfold Ex.kunmapF at hx
  split at hx
  ·by_cases e1 : i = e.toNat
   ·subst e1
    rw [Ex.setF_same] at hx
    exact h.tidy _ hi p x (Ex.unmapF_some hx)
   ·rw [Ex.setF_other _ _ _ _ e1] at hx
    exact h.tidy i hi p x hx
  ·exact h.tidy i hi p x hx
 ·exact h
 ·exact h.pages h.tidy
 ·exact h.pages h.tidy
 ·exact h
 ·exact h.pages h.tidy
 ·split
  ·refine ⟨h.tidy, fun j hj m hm => ?_⟩
   unfold Ip.sendQ at hm
   dsimp only at hm
   split at hm
   ·rename_i hs
    have hok : Ip.isE e = true ∧ Ip.isE r.a = true ∧ r.vals.length ≤ 8 := by
     unfold Ip.sendR at hs
     split at hs
     ·assumption
     ·cases hs
    obtain ⟨k, rfl, hk⟩ := Ip.isE_nat hok.1
    by_cases e1 : j = r.a.toNat
    ·subst e1
     rw [Ip.QS.set_same] at hm
     rcases List.mem_append.1 hm with hm | hm
     ·exact h.at hm
     ·rw [List.mem_singleton] at hm
      subst hm
      exact ⟨by show (0 : Int) ≤ (k : Int); omega, by show (k : Int) < 12; omega, hok.2.2, hr.u⟩
    ·rw [Ip.QS.set_other _ _ _ _ e1] at hm
     exact h.msg j hj m hm
   ·exact h.msg j hj m hm
  ·exact h
 ·split
  ·exact h
  ·refine ⟨h.tidy, fun j hj m hm => ?_⟩
   unfold Ip.recvQ at hm
   dsimp only at hm
   split at hm
   ·by_cases e1 : j = e.toNat
    ·subst e1
     rw [Ip.QS.set_same] at hm
     exact h.msg _ hj m (List.mem_of_mem_tail hm)
    ·rw [Ip.QS.set_other _ _ _ _ e1] at hm
     exact h.msg j hj m hm
   ·exact h.msg j hj m hm
 ·exact h.disk
 ·split
  ·exact h.disk
  ·exact h
 ·exact h.disk
 ·exact h.disk
 ·exact h.disk
theorem XI.raw {S : XS} (h : XI S) (hK : Ex.KInv S.T S.n) (e : Int) (ws : List Int) (hu : U64s ws) (a' : Option Addr) (c' : Nat) : XI (rawS S e ws a' c').1 := by
 unfold rawS
 split
 ·split
  ·exact h
  ·rename_i r hr
   exact h.rawO hK e r a' c' (req_ok hr hu)
 ·exact h
theorem XI.zero (n d : Nat) : XI (S0 n d) := ⟨fun e _ p x h => (by cases h), fun j _ m hm => (by cases hm)⟩
theorem XI.env {S : XS} (h : XI S) (E : En.ES) : XI { S with E := E } := ⟨h.tidy, h.msg⟩
theorem XI.mv {S : XS} (h : XI S) (m : Nat) : XI (S.mv m) := ⟨h.tidy, h.msg⟩
end Go.Proofs.YtbhpafgoofkkmaaGreatDoor
