import Derived.Test.YtbhpafgoofkkmaaGreatDoorRxW
import Derived.Test.YtbhpafgoofkkmaaGreatDoorXoT
import Derived.Test.YtbhpafgoofkkmaaGreatDoorRefuses13
set_option linter.all false
namespace Go.Proofs.YtbhpafgoofkkmaaGreatDoor
open Go.RowKit
set_option maxHeartbeats 1000000 in
theorem words_any (D E : List Int) (a b : Option Addr) (ca cb : Nat) (w : World) (ha : Ip.Rd w a D) (hb : Ip.Rd w b E) (hl6 : D.length ≤ 1000000) :
  Calls Tryz.prog 11 #[.slice a D.length ca, .slice b E.length cb] w fun e w' => ∃ t, e = .returned (.bool t) ∧ Below w.heap.size w w' := by
 have HA : Hid _ := ha
 have HB : Hid _ := hb
 clear ha hb
 obtain ⟨n, hn⟩ : ∃ n, n = D.length := ⟨_, rfl⟩
 obtain ⟨m, hm⟩ : ∃ m, m = E.length := ⟨_, rfl⟩
 rw [← hn, ← hm]
 have HN : Hid (n = D.length ∧ m = E.length) := ⟨hn, hm⟩
 have hn6 : n ≤ 1000000 := by omega
 clear hn hm hl6
 by_cases hl : n = m
 ·subst hl
  go_enter Tryz.func11, Tryz.ntmps11
  go_wp2
  go_loopw [5] (fun s wr => ∃ (k : Nat), k ≤ n ∧ s = .int .i64 k ∧ Below w.heap.size w wr) (fun s _ => n - (intOf s).toNat)
  case atStart => exact ⟨0, by omega, rfl, Below.refl _ _⟩
  case round =>
   obtain ⟨k, hk, rfl, hbw⟩ := hrel
   by_cases hlt : k < n
   ·obtain ⟨x, hx⟩ : ∃ x, D[k]? = some x := ⟨D[k]'(by have := HN.out.1; omega), List.getElem?_eq_getElem _⟩
    obtain ⟨y, hy⟩ : ∃ y, E[k]? = some y := ⟨E[k]'(by have := HN.out.2; omega), List.getElem?_eq_getElem _⟩
    obtain ⟨ga, oa, rfl, a0⟩ := (Ip.Rd.below HA.out hbw) k x hx
    obtain ⟨gb, ob, rfl, b0⟩ := (Ip.Rd.below HB.out hbw) k y hy
    clear hx hy
    by_cases hxy : x = y
    ·subst hxy
     go_wp2_with fail
     go_region
     all_goals
      go_wp2
      go_roundw
      case rel => exact ⟨k + 1, by omega, by go_num, hbw.drew⟩
      case measure => simp [intOf]; omega
    ·have hne : (x == y) = false := by simpa using hxy
     clear hxy
     go_wp2_with fail
     go_region
     all_goals
      go_wp2
      go_ret
      exact ⟨_, rfl, hbw.drew⟩
   ·obtain rfl : k = n := by omega
    go_wp2
    go_ret
    exact ⟨_, rfl, hbw⟩
 ·have hne : ((n : Int) == (m : Int)) = false := beq_false_of_ne (by omega)
  go_enter Tryz.func11, Tryz.ntmps11
  go_wp2
  go_ret
  exact ⟨_, rfl, Below.refl _ _⟩
theorem among_two : ((List.range 8).all fun q => (!Ca.among 3 (q : Nat) || Ca.among 2 (q : Nat)) && (!(bits .and .i64 (q : Nat) 2 != 0) || Ca.among 2 (q : Nat))) = true := by decide +kernel
theorem among_of {q : Int} (h : 0 ≤ q ∧ q ≤ 7) : (Ca.among 3 q = true → Ca.among 2 q = true) ∧ ((bits .and .i64 q 2 != 0) = true → Ca.among 2 q = true) := by
 have h1 := among_two
 rw [List.all_eq_true] at h1
 have h2 := h1 q.toNat (by simp; omega)
 rw [show ((q.toNat : Nat) : Int) = q by omega] at h2
 simp only [Bool.and_eq_true, Bool.or_eq_true, Bool.not_eq_true'] at h2
 constructor
 ·intro h3
  rcases h2.1 with h4 | h4
  ·rw [h3] at h4; cases h4
  ·exact h4
 ·intro h3
  rcases h2.2 with h4 | h4
  ·rw [h3] at h4; cases h4
  ·exact h4
theorem slot_has {T : Ca.Tab} {e s K b : Int} (hi : (Ca.getT T e s).is = true) (hK : (Ca.getT T e s).kind = K) (h1 : (Ca.getT T e s).id ≤ b) (h2 : b - (Ca.getT T e s).id < (Ca.getT T e s).len) (h3 : Ca.among 2 (Ca.getT T e s).rights = true) : Ca.hasB T e K b 2 = true := by
 obtain ⟨a, c, rfl, rfl, ha, hc⟩ := Ca.isP_nat (Ca.is_isP hi)
 rw [Ca.getT_nat T a c ha hc] at *
 unfold Ca.hasB
 simp only [Bool.and_eq_true]
 refine ⟨by simp [Ca.isE]; omega, ?_⟩
 refine Ca.hasN_hit (s := c) hc ?_
 simp only [Ca.hitB, Ca.coversB, Bool.and_eq_true, beq_iff_eq, decide_eq_true_eq, Int.toNat_natCast]
 exact ⟨⟨⟨hK, h1⟩, h2⟩, h3⟩
theorem frm_has {T : Ca.Tab} {n : Nat} (hK : Ex.KInv T n) {e s f : Int} (h : Ex.frm T e s 2 = some f) : Ca.hasB T e 1 f 2 = true := by
 unfold Ex.frm at h
 split at h
 ·rename_i hc
  simp only [Bool.and_eq_true] at hc
  injection h with h
  obtain ⟨k1, _, _, k4, _⟩ := hK.get hc.1
  exact slot_has hc.1 k1 (by omega) (by omega) hc.2
 ·cases h
theorem hold_has {T : Ca.Tab} {n : Nat} (hK : Ex.KInv T n) {m : Nat} {f : Int} (h : Ex.holdB T m (f, true) = true) : Ca.hasB T m 1 f 2 = true := by
 unfold Ex.holdB Ca.hasB at *
 simp only [Bool.and_eq_true] at h ⊢
 refine ⟨h.1, ?_⟩
 have h2 := h.2
 unfold Ca.hasN at h2 ⊢
 rw [List.any_eq_true] at h2 ⊢
 obtain ⟨s, hs, hh⟩ := h2
 refine ⟨s, hs, ?_⟩
 simp only [List.mem_range] at hs
 have hE := h.1
 obtain ⟨m', e', hm'⟩ := Ex.isE_nat hE
 have hi := hit_is hh
 obtain ⟨_, _, _, _, r1, r2⟩ := hK.ok (by omega) hi
 simp only [Ca.hitB, Bool.and_eq_true] at hh ⊢
 exact ⟨hh.1, (among_of ⟨by omega, r2⟩).1 hh.2⟩
theorem walk_wr {f : Int → Option (Int × Bool)} {a : Int} (h : (Mu.walkV f a true).2.2 = 0) : ∃ p x, f p = some x ∧ (Mu.walkV f a true).1 = x.1 ∧ x.2 = true := by
 unfold Mu.walkV at h ⊢
 split at h
 ·simp at h
 ·rename_i hc
  rw [if_neg hc]
  cases hf : f (a / 32) with
  | none => rw [hf] at h; simp at h
  | some x =>
   rw [hf] at h
   dsimp only at h ⊢
   refine ⟨_, x, hf, ?_⟩
   unfold Mu.reachV at h ⊢
   split at h
   ·simp at h
   ·rename_i h2
    rw [if_neg h2]
    refine ⟨rfl, ?_⟩
    simpa using h2
theorem frame_setN (vs : List Int) (f k g : Nat) (v : Int) (hk : k < 32) (hg : g ≠ f) : Me.frameOf (vs.set (f * 32 + k) v) g = Me.frameOf vs g := by
 rw [Me.frameOf_set _ _ _ _ _ hk, if_neg hg]
theorem frmW_putW {n : Nat} {vs : List Int} {f k v i : Int} (h : i ≠ f) : frmW n (Me.putW n vs f k v) i = frmW n vs i := by
 unfold frmW Me.putW
 split
 ·split
  ·rw [frame_setN _ _ _ _ _ (by omega) (by omega)]
  ·rfl
 ·rfl
theorem frmW_putC {n : Nat} {vs : List Int} {t f i : Int} (hl : vs.length = n * 32) (h : i ≠ t) : frmW n (Me.putC n vs t f) i = frmW n vs i := by
 unfold frmW
 split
 ·rename_i hi
  unfold Me.putC
  split
  ·have h2 : frameOf (splice vs (t.toNat * 32) (Me.frameOf vs f.toNat)) i.toNat = _ := frame_splice vs (Me.frameOf vs f.toNat) n t.toNat i.toNat hl (by omega) (by omega) (Me.frameOf_length vs f.toNat n hl (by omega))
   refine Eq.trans h2 ?_
   rw [if_neg (by omega)]
   rfl
  ·rfl
 ·rfl
theorem frmW_putZ {n : Nat} {vs : List Int} {f i : Int} (hl : vs.length = n * 32) (h : i ≠ f) : frmW n (Me.putZ n vs f) i = frmW n vs i := by
 unfold frmW
 split
 ·unfold Me.putZ
  split
  ·have h2 : frameOf (splice vs (f.toNat * 32) (List.replicate 32 0)) i.toNat = _ := frame_splice vs (List.replicate 32 0) n f.toNat i.toNat hl (by omega) (by omega) (by simp)
   refine Eq.trans h2 ?_
   rw [if_neg (by omega)]
   rfl
  ·rfl
 ·rfl
theorem rawO_frame {S : XS} (hK : Ex.KInv S.T S.n) (hl : S.vs.length = S.n * 32) (ti : ∀ e, e < 12 → ∀ p x, S.F e p = some x → Ex.holdB S.T e x = true) (e : Int) (r : Rqt) (a' : Option Addr) (c' : Nat) (i : Int) :
  frmW S.n (rawO S e r a' c').1.vs i = frmW S.n S.vs i ∨ Ex.cnt S.T 768 i = 0 ∨ Ca.hasB S.T e 1 i 2 = true := by
 unfold rawO
 split <;> (try dsimp only)
 ·unfold Ex.allocV
  split
  ·split
   ·exact Or.inl rfl
   ·split
    ·by_cases h : i = Ex.freeI S.T S.n
     ·right
      left
      rcases Ex.freeI_cases S.T S.n with ⟨q, _⟩ | ⟨f, _, q, hc, _⟩
      ·omega
      ·rw [h, q]; exact hc
     ·exact Or.inl (frmW_putZ hl h)
    ·exact Or.inl rfl
  ·exact Or.inl rfl
 ·split <;> exact Or.inl rfl
 ·exact Or.inl rfl
 ·exact Or.inl rfl
 ·split <;> exact Or.inl rfl
 ·exact Or.inl rfl
 ·exact Or.inl rfl
 ·unfold Ex.kstoreV
  split
  ·rename_i hE
   split
   ·rename_i hw
    obtain ⟨p, x, hp, hq, hx⟩ := walk_wr hw
    by_cases h : i = (Mu.walkV (S.F e.toNat) (v0 r) true).1
    ·right
     right
     obtain ⟨m, rfl, hm⟩ := Ex.isE_nat hE
     have h2 := ti m hm p x (by simpa using hp)
     obtain ⟨f, b⟩ := x
     dsimp only at hx hq
     subst hx
     rw [h, hq]
     exact hold_has hK h2
    ·exact Or.inl (frmW_putW h)
   ·exact Or.inl rfl
  ·exact Or.inl rfl
 ·unfold Ex.kcopyV
  split
  ·rename_i f g hf hg
   by_cases h : i = f
   ·right
    right
    rw [h]
    exact frm_has hK hf
   ·exact Or.inl (frmW_putC hl h)
  ·exact Or.inl rfl
 ·exact Or.inl rfl
 ·unfold Ex.kwriteV
  split
  ·exact Or.inl rfl
  ·rename_i f hf
   by_cases h : i = f
   ·right
    right
    rw [h]
    exact frm_has hK hf
   ·exact Or.inl (frmW_putW h)
 ·split <;> exact Or.inl rfl
 ·split <;> exact Or.inl rfl
 ·exact Or.inl rfl
 ·split <;> exact Or.inl rfl
 ·exact Or.inl rfl
 ·exact Or.inl rfl
 ·exact Or.inl rfl
theorem wordsW_get (n : Nat) (l : Xd.Lines) (vs : List Int) (b : Nat) (i : Int) : Xd.wordsW n (Xd.getL l vs b) vs i = Xd.wordsW n l vs i := by
 unfold Xd.wordsW
 split
 ·unfold Xd.getL Xd.lookW
  by_cases e : i.toNat = b
  ·rw [e, Xd.Lines.set_same]
   rfl
  ·rw [Xd.Lines.set_other _ _ _ _ e]
 ·rfl
theorem wordsW_put (n : Nat) (l : Xd.Lines) (vs ws : List Int) (b : Nat) (i : Int) (h : i.toNat ≠ b) : Xd.wordsW n (Xd.putL l b ws) vs i = Xd.wordsW n l vs i := by
 unfold Xd.wordsW
 split
 ·unfold Xd.putL Xd.lookW
  rw [Xd.Lines.set_other _ _ _ _ h]
 ·rfl
theorem rawO_block {S : XS} (hX : Xd.XInv S.C S.d) (e : Int) (r : Rqt) (a' : Option Addr) (c' : Nat) (i : Int) (hi : 0 ≤ i) :
  Xd.wordsW S.d (rawO S e r a' c').1.l (rawO S e r a' c').1.ds i = Xd.wordsW S.d S.l S.ds i ∨ Ca.hasB S.C e 2 i 2 = true := by
 unfold rawO
 split <;> (try dsimp only) <;> first
  | exact Or.inl rfl
  | (split <;> exact Or.inl rfl)
  | skip
 ·unfold Xd.getLl
  split
  ·exact Or.inl (wordsW_get _ _ _ _ _)
  ·exact Or.inl rfl
 ·unfold Xd.putLl
  split
  ·rename_i hm
   split
   ·have hb := Xd.mayX_in hX hm
    by_cases h : i.toNat = r.b.toNat
    ·right
     have hib : i = r.b := by omega
     rw [hib]
     simp only [Xd.mayX, Xd.hasR, Bool.and_eq_true, decide_eq_true_eq] at hm
     obtain ⟨⟨h1, h2⟩, h3, h4⟩ := hm
     obtain ⟨q1, _, _, _, q5, q6⟩ := hX.get h1
     exact slot_has h1 q1 h3 h4 ((among_of ⟨by omega, q6⟩).2 h2)
    ·exact Or.inl (wordsW_put _ _ _ _ _ _ h)
   ·exact Or.inl rfl
  ·exact Or.inl rfl
theorem rawS_writes {S : XS} (hK : Ex.KInv S.T S.n) (hl : S.vs.length = S.n * 32) (ti : ∀ e, e < 12 → ∀ p x, S.F e p = some x → Ex.holdB S.T e x = true) (hX : Xd.XInv S.C S.d) (e : Int) (ws : List Int) (a' : Option Addr) (c' : Nat) (i : Int) (hi : 0 ≤ i) :
  (frmW S.n (rawS S e ws a' c').1.vs i = frmW S.n S.vs i ∨ Ex.cnt S.T 768 i = 0 ∨ Ca.hasB S.T e 1 i 2 = true) ∧ (Xd.wordsW S.d (rawS S e ws a' c').1.l (rawS S e ws a' c').1.ds i = Xd.wordsW S.d S.l S.ds i ∨ Ca.hasB S.C e 2 i 2 = true) := by
 unfold rawS
 split
 ·cases hr : reqOf ws with
  | none => exact ⟨Or.inl rfl, Or.inl rfl⟩
  | some r => exact ⟨rawO_frame hK hl ti e r a' c' i, rawO_block hX e r a' c' i hi⟩
 ·exact ⟨Or.inl rfl, Or.inl rfl⟩
section
variable {w : World} {X : Nat} {Y : RxL} {k : Nat} {S : XS}
theorem x_hold (h : RefX w X Y k S) (o : OkR S) (hk : k ≤ 800) (i : Int) (hi : Ca.I64 i) :
  Calls Tryz.prog 18 #[ptr Y.QM.c, .int .i64 1, .int .i64 i] w fun x w' => ∃ a n c, x = .returned (.slice a n c) ∧ (n = 0 ↔ Ex.cnt S.T 768 i = 0) ∧ Below w.heap.size w w' := by
 obtain ⟨L, l, a1, a2, a3, a4, a5⟩ := h.mem
 obtain ⟨sv, hc⟩ := a1.caps
 refine (Ca.rhold_at Y.QM.M Y.QM.c sv L l 1 i w hc (by omega) a2.rsanes hi).mono ?_
 rintro x w' ⟨v, rfl, ho, hb⟩
 obtain ⟨a, c, rfl⟩ := Ip.own_slice ho
 exact ⟨a, _, c, rfl, Ex.rel_hold a2 o.k i, hb⟩
theorem x_has (h : RefX w X Y k S) (hk : k ≤ 800) (e i : Int) (hi : Ca.I64 i) :
  Calls Tryz.prog 19 #[ptr Y.QM.c, .int .i64 e, .int .i64 1, .int .i64 i, .int .i64 2] w fun x w' => x = .returned (.bool (Ca.hasB S.T e 1 i 2)) ∧ Below w.heap.size w w' := by
 obtain ⟨L, l, a1, a2, a3, a4, a5⟩ := h.mem
 obtain ⟨sv, hc⟩ := a1.caps
 rw [a2.has]
 exact Ca.rhas_at Y.QM.M Y.QM.c sv L l e 1 i 2 w hc (by omega) a2.rsanes hi
theorem x_xhas (h : RefX w X Y k S) (hk : k ≤ 800) (e i : Int) (hi : Ca.I64 i) :
  Calls Tryz.prog 19 #[ptr Y.QD.c, .int .i64 e, .int .i64 2, .int .i64 i, .int .i64 2] w fun x w' => x = .returned (.bool (Ca.hasB S.C e 2 i 2)) ∧ Below w.heap.size w w' := by
 obtain ⟨L, l, m, a1, a2, a3, a4, a5⟩ := h.disk
 obtain ⟨sv, hc⟩ := a1.caps
 rw [a2.has]
 exact Ca.rhas_at Y.QD.M Y.QD.c sv L l e 2 i 2 w hc (by omega) a2.rsanes hi
end
end Go.Proofs.YtbhpafgoofkkmaaGreatDoor
namespace Go.Proofs.YtbhpafgoofkkmaaGreatDoor
open Go.RowKit
theorem rawS_new {S : XS} {M : Nat} (h : ∀ j, j < 12 → ∀ m ∈ S.Q j, Ip.NewA M m.a) (e : Int) (ws : List Int) (a' : Option Addr) (c' : Nat) (ha : Ip.NewA M a') : ∀ j, j < 12 → ∀ m ∈ (rawS S e ws a' c').1.Q j, Ip.NewA M m.a := by
 intro j hj
 unfold rawS
 split
 ·cases hr : reqOf ws with
  | none => exact h j hj
  | some r =>
   show ∀ m ∈ (rawO S e r a' c').1.Q j, _
   unfold rawO
   split <;> (try dsimp only) <;> first
    | exact h j hj
    | (split <;> exact h j hj)
    | skip
   ·split
    ·show ∀ m ∈ Ip.sendQ S.Q e r.a a' c' r.vals j, _
     unfold Ip.sendQ
     split
     ·intro m hm
      by_cases e1 : j = r.a.toNat
      ·have hm2 : m ∈ Ip.qat S.Q r.a ++ [(⟨e, a', c', r.vals⟩ : Ip.Mg)] := by
        rw [e1] at hm
        simpa [Ip.QS.set] using hm
       rcases List.mem_append.1 hm2 with h1 | h1
       ·unfold Ip.qat at h1
        split at h1
        ·rw [← e1] at h1
         exact h j hj m h1
        ·cases h1
       ·rw [List.mem_singleton] at h1
        subst h1
        exact ha
      ·have hm2 : m ∈ S.Q j := by simpa [Ip.QS.set, e1] using hm
       exact h j hj m hm2
     ·exact h j hj
    ·exact h j hj
   ·cases hq : Ip.qat S.Q e with
    | nil => exact h j hj
    | cons m0 R =>
     show ∀ m ∈ Ip.recvQ S.Q e j, _
     unfold Ip.recvQ
     split
     ·intro m hm
      by_cases e1 : j = e.toNat
      ·have hm2 : m ∈ (S.Q e.toNat).tail := by
        rw [e1] at hm
        simpa [Ip.QS.set] using hm
       rw [← e1] at hm2
       exact h j hj m (List.mem_of_mem_tail hm2)
      ·have hm2 : m ∈ S.Q j := by simpa [Ip.QS.set, e1] using hm
       exact h j hj m hm2
     ·exact h j hj
 ·exact h j hj
structure Pair13 (W wr : World) (K : Nat) (L : XL) (X : Nat) (Y : RxL) (k : Nat) (S : XS) : Prop where
 run : RunAt W wr K L k S
 ref : RefX wr X Y k S
 n : S.n = 8
 M : Y.b1 ≤ L.D.M
 q : ∀ j, j < 12 → ∀ m ∈ S.Q j, Ip.NewA Y.b1 m.a
 rp : ∀ q, RP X Y 8 q → W.heap.size ≤ q
structure Mid13 (W wr : World) (K : Nat) (L : XL) (X : Nat) (Y : RxL) (k : Nat) (S S' : XS) (e : Int) : Prop where
 run : RunAt W wr K L (k + 1) S'
 ref : RefX wr X Y k S
 n : S.n = 8
 n' : S'.n = 8
 M : Y.b1 ≤ L.D.M
 q : ∀ j, j < 12 → ∀ m ∈ S'.Q j, Ip.NewA Y.b1 m.a
 rp : ∀ q, RP X Y 8 q → W.heap.size ≤ q
 ok : OkR S
 hm : ∀ m ∈ Ip.qat S.Q e, 0 ≤ m.fr ∧ m.fr < 12 ∧ m.ws.length ≤ 8
section
variable {W wr w' : World} {K k : Nat} {L : XL} {S : XS} {X : Nat} {Y : RxL}
theorem Pair13.drew (h : Pair13 W wr K L X Y k S) : Pair13 W wr.drew K L X Y k S :=
 ⟨⟨h.run.ex.below (Below.refl _ _).drew, h.run.xi, h.run.m, h.run.d, h.run.bl.drew⟩, h.ref.below (Below.refl _ _).drew, h.n, h.M, h.q, h.rp⟩
theorem Mid13.drew {S' : XS} {e : Int} (h : Mid13 W wr K L X Y k S S' e) : Mid13 W wr.drew K L X Y k S S' e :=
 ⟨⟨h.run.ex.below (Below.refl _ _).drew, h.run.xi, h.run.m, h.run.d, h.run.bl.drew⟩, h.ref.below (Below.refl _ _).drew, h.n, h.n', h.M, h.q, h.rp, h.ok, h.hm⟩
theorem pair_raw (h : Pair13 W wr K L X Y k S) (hF : Frm W) (hL : XLow L W.heap.size) (d : Ask) (hd : AskOk W d) (hk : k ≤ 800000) :
  Calls Tryz.prog 9 #[ptr K, .int .i64 d.e, .slice d.a d.ws.length d.cap] wr fun x w' => ∃ a n c a' c', x = .returned (.tuple #[.slice a n c, .int .i64 (rawS S d.e d.ws a' c').2.2]) ∧ Mid13 W w' K L X Y k S (rawS S d.e d.ws a' c').1 d.e ∧ XTch L True wr w' := by
 have hs := h.run.bl.size
 refine (rawx_at h.run.ex (hF.below (Frm.pos hF) h.run.bl) h.run.xi d.e _ d.ws (fun w' ht => hd.1.below (h.run.bl.trans (ht.below hL.f hL.x hL.i hs))) hd.2 (by have := h.run.m; omega)).mono ?_
 rintro x w' ⟨a', c', hn, a, n, c, rfl, hr, hE, ht0⟩
 have ht : XTch L True wr w' := ht0.mono (fun _ => trivial)
 have hb : Below W.heap.size W w' := h.run.bl.trans (ht.below hL.f hL.x hL.i hs)
 have hS := rawS_same S d.e d.ws a' c'
 have hm := hS.m
 have hm1 := h.run.m
 have hms := h.ref.MS
 have hj := h.ref.j1
 exact ⟨a, n, c, a', c', rfl, ⟨⟨hE, h.run.xi.raw h.run.ex.mem.inv d.e d.ws hd.2 a' c', by omega, hS.d.trans h.run.d, hb⟩, h.ref.tch ht h.run.ex, h.n, hS.n.trans h.n, h.M, rawS_new h.q d.e d.ws a' c' (fun g off q => by have := hn g off q; omega), h.rp, okR_of h.run.ex h.run.d, fun m hm => by
   obtain ⟨q1, q2, q3, _⟩ := h.run.xi.at hm
   exact ⟨q1, q2, q3⟩⟩, ht⟩
theorem mid_raw {d : Ask} {a' : Option Addr} {c' : Nat} (h : Mid13 W wr K L X Y k S (rawS S d.e d.ws a' c').1 d.e) (hd : AskOk W d) (hk : k ≤ 800) :
  Calls Tryz.prog 10 #[ptr X, .int .i64 d.e, .slice d.a d.ws.length d.cap] wr fun x w' => ∃ a n c r, x = .returned (.tuple #[.slice a n c, .int .i64 r]) ∧ Pair13 W w' K L X Y (k + 1) (rawS S d.e d.ws a' c').1 := by
 have hs := h.run.bl.size
 have hrp : ∀ q, RP X Y S.n q → W.heap.size ≤ q := by rw [h.n]; exact h.rp
 refine (rraw_at h.ref h.ok hk d.e h.hm _ d.ws (fun w' hu => hd.1.below (h.run.bl.trans (hu.below hrp hs))) hd.2 a' c').mono ?_
 rintro x w' ⟨a, n, c, rfl, hr, hR, hu⟩
 refine ⟨a, n, c, _, rfl, ⟨⟨h.run.ex.keepRef hu (fun q hq => h.ref.rp q hq) h.M h.q, h.run.xi, h.run.m, h.run.d, h.run.bl.trans (hu.below hrp hs)⟩, hR, h.n', h.M, h.q, h.rp⟩⟩
end
def Was16 (w : World) (A : Nat) (f : Nat → List Int) (k : Nat) : Prop := ∃ r : Array Value, w.heap[A]? = some (.cells r 45) ∧ r.size = 16 ∧ ∀ j, j < k → ∃ v, r[j]? = some v ∧ URow 0 w v (f j)
section
variable {w w' : World} {A : Nat} {f : Nat → List Int} {k : Nat}
theorem Was16.below (h : Was16 w A f k) (hb : Below w.heap.size w w') : Was16 w' A f k := by
 obtain ⟨r, h1, h2, h3⟩ := h
 refine ⟨r, (hb.block _ (lt_of_heap h1)).trans h1, h2, fun j hj => ?_⟩
 obtain ⟨v, h4, h5⟩ := h3 j hj
 exact ⟨v, h4, URow.bel h5 hb⟩
theorem Was16.upd {b : Nat} {cs : Array Value} (h : Was16 w A f k) (hu : Upd b w w') (hb : w.heap[b]? = some (.cells cs 272)) : Was16 w' A f k := by
 obtain ⟨r, h1, h2, h3⟩ := h
 refine ⟨r, (hu.block A (lt_of_heap h1) (heap_apart h1 hb (by decide))).trans h1, h2, fun j hj => ?_⟩
 obtain ⟨v, h4, h5⟩ := h3 j hj
 exact ⟨v, h4, URow.upd h5 hu hb (by decide)⟩
theorem Was16.tch {K : Nat} {L : XL} {S : XS} {i : Prop} (h : Was16 w A f k) (ht : XTch L i w w') (hx : ExoAt w K L S) : Was16 w' A f k := by
 obtain ⟨r, h1, h2, h3⟩ := h
 refine ⟨r, ht.other hx h1 (by decide), h2, fun j hj => ?_⟩
 obtain ⟨v, h4, h5⟩ := h3 j hj
 exact ⟨v, h4, URow.tch h5 ht hx⟩
theorem Was16.set {v : Value} (h : Was16 w A f k) (hk : k < 16) (hv : URow 0 w v (f k)) : Was16 (w.setCell ⟨A, k, none⟩ v) A f (k + 1) := by
 obtain ⟨r, h1, h2, h3⟩ := h
 have hA : (w.setCell ⟨A, k, none⟩ v).heap[A]? = some (.cells (r.setIfInBounds k v) 45) := by
  rw [setCell_eq_setRow w A _ _ _ _ _ h1, setRow_heap w A _ _ _ _ h1]
 have hrow : ∀ {u : Value} {xs : List Int}, URow 0 w u xs → URow 0 (w.setCell ⟨A, k, none⟩ v) u xs := fun hu => URow.upd hu (Upd.setCell A k w v) h1 (by decide)
 refine ⟨_, hA, by simp [h2], fun j hj => ?_⟩
 by_cases e : j = k
 ·subst e
  exact ⟨v, by simp [h2, hk], hrow hv⟩
 ·obtain ⟨u, h4, h5⟩ := h3 j (by omega)
  exact ⟨u, by rw [Array.getElem?_setIfInBounds_ne (by omega)]; exact h4, hrow h5⟩
theorem Was16.aside {B j : Nat} {v : Value} {g : Nat → List Int} {m : Nat} (h : Was16 w A f k) (hB : Was16 w B g m) (hne : A ≠ B) : Was16 (w.setCell ⟨B, j, none⟩ v) A f k := by
 obtain ⟨r, h1, h2, h3⟩ := h
 obtain ⟨r2, h4, _⟩ := hB
 refine ⟨r, ((Upd.setCell B j w v).block A (lt_of_heap h1) hne).trans h1, h2, fun j hj => ?_⟩
 obtain ⟨u, h5, h6⟩ := h3 j hj
 exact ⟨u, h5, URow.upd h6 (Upd.setCell B _ w v) h4 (by decide)⟩
theorem Was16.cell (h : Was16 w A f k) {j : Nat} (hj : j < 16) : (∃ u, w.cell? ⟨A, j, none⟩ = some u) ∧ w.frozen? ⟨A, j, none⟩ = false := by
 obtain ⟨r, h1, h2, _⟩ := h
 exact ⟨⟨r[j]'(by omega), by rw [cell_of_heap h1]; simp [h2, hj]⟩, frozen_of_heap h1⟩
end
theorem RefX.mv {w : World} {X : Nat} {Y : RxL} {k m : Nat} {S : XS} (h : RefX w X Y k S) : RefX w X Y k (S.mv m) := ⟨h.mem, h.disk, h.ipc, h.env, h.m1, h.d1, h.d2, h.j1, h.MS⟩
structure Lk13 (W w0 wr : World) (K : Nat) (L : XL) (S : XS) (kk : Nat) (X : Nat) (Y : RxL) (kr : Nat) (Sr : XS) (FA BA B : Nat) (ff fb : Nat → List Int) (nf nb : Nat) (box : Array Value) : Prop where
 look : LookAt w0 wr K L S kk
 ref : RefX wr X Y kr Sr
 fa : Was16 wr FA ff nf
 ba : Was16 wr BA fb nb
 bx : wr.heap[B]? = some (.cells box 32)
 bl : Below W.heap.size W wr
section
variable {W w0 wr w' : World} {K kk : Nat} {L : XL} {S : XS} {X : Nat} {Y : RxL} {kr : Nat} {Sr : XS} {FA BA B : Nat} {ff fb : Nat → List Int} {nf nb : Nat} {box : Array Value}
theorem Lk13.below (h : Lk13 W w0 wr K L S kk X Y kr Sr FA BA B ff fb nf nb box) (hb : Below wr.heap.size wr w') : Lk13 W w0 w' K L S kk X Y kr Sr FA BA B ff fb nf nb box :=
 ⟨h.look.over (hb.mono h.look.size), h.ref.below hb, h.fa.below hb, h.ba.below hb, (hb.block _ (lt_of_heap h.bx)).trans h.bx, h.bl.trans (hb.mono h.bl.size)⟩
theorem lk_frame (h : Lk13 W w0 wr K L S kk X Y kr Sr FA BA B ff fb nf nb box) (f : Int) :
  Calls Tryz.prog 15 #[ptr K, .int .i64 f] wr fun x w' => ∃ v, x = .returned v ∧ URow 0 w' v (frmW S.n S.vs f) ∧ Lk13 W w0 w' K L S kk X Y kr Sr FA BA B ff fb nf nb box ∧ Below wr.heap.size wr w' := by
 refine (look_frame h.look f).mono ?_
 rintro x w' ⟨v, rfl, ho, hl, hb⟩
 exact ⟨v, rfl, ho.urow.mono (Nat.zero_le _), h.below hb, hb⟩
theorem lk_block (h : Lk13 W w0 wr K L S kk X Y kr Sr FA BA B ff fb nf nb box) (hL : XLow L W.heap.size) (b : Int) (hb : Ca.I64 b) (hk : kk ≤ 900000) :
  Calls Tryz.prog 16 #[ptr K, .int .i64 b] wr fun x w' => ∃ v, x = .returned v ∧ URow 0 w' v (Xd.wordsW S.d S.l S.ds b) ∧ Lk13 W w0 w' K L S (kk + 1) X Y kr Sr FA BA B ff fb nf nb box ∧ Upd L.D.b wr w' := by
 refine (look_block h.look b hb hk).mono ?_
 rintro x w' ⟨v, rfl, hr, hl, hu⟩
 obtain ⟨cs, hd⟩ := h.look.disk
 obtain ⟨m, _, hE⟩ := h.look.ee
 exact ⟨v, rfl, hr.mono (Nat.zero_le _), ⟨hl, h.ref.tch (XTch.of_xfoot (i := True) (Xd.updB hu)) hE, h.fa.upd hu hd, h.ba.upd hu hd, h.look.stay hu h.bx (by decide), h.bl.trans (hu.below (hL.x _ (Or.inr (Or.inl rfl))) h.bl.size)⟩, hu⟩
end
theorem words_dec (D E : List Int) (a b : Option Addr) (ca cb : Nat) (w : World) (ha : Ip.Rd w a D) (hb : Ip.Rd w b E) (hl6 : D.length ≤ 1000000) :
  Calls Tryz.prog 11 #[.slice a D.length ca, .slice b E.length cb] w fun e w' => ∃ t, e = .returned (.bool t) ∧ (D = E → t = true) ∧ Below w.heap.size w w' := by
 by_cases h : D = E
 ·subst h
  exact (Ip.words_same D a b ca cb w ha hb hl6).mono fun x w' hx => ⟨true, hx.1, fun _ => rfl, hx.2⟩
 ·refine (words_any D E a b ca cb w ha hb hl6).mono ?_
  rintro x w' ⟨t, hx, hbl⟩
  exact ⟨t, hx, fun q => absurd q h, hbl⟩
end Go.Proofs.YtbhpafgoofkkmaaGreatDoor
namespace Go.Proofs.YtbhpafgoofkkmaaGreatDoor
open Go.RowKit
theorem size_alloc13 (w : World) (o : Obj) : (w.alloc o).heap.size = w.heap.size + 1 := by rw [← World.alloc_eq]; simp only [Array.size_push]
section
variable {W w0 wr w' : World} {K kk : Nat} {L : XL} {S : XS} {X : Nat} {Y : RxL} {kr : Nat} {Sr : XS} {FA BA B : Nat} {ff fb : Nat → List Int} {nf nb : Nat} {box : Array Value}
theorem RefX.put16 {w : World} {k A j : Nat} {f : Nat → List Int} {m : Nat} (h : RefX w X Y k S) (hA : Was16 w A f m) (v : Value) : RefX (w.setCell ⟨A, j, none⟩ v) X Y k S := by
 obtain ⟨r, h1, _⟩ := hA
 have hu := Upd.setCell A j w v
 refine h.keepTy hu.os hu.tape hu.output hu.size (fun q cs t fr hh o => (hu.block q (lt_of_heap hh) (heap_apart hh h1 ?_)).trans hh)
 unfold itsTy refTy at o
 rcases o with (rfl | rfl | rfl | rfl | rfl | rfl) | rfl | rfl | rfl | rfl | rfl | rfl <;> decide
theorem Lk13.put {k : Nat} {v u : Value} (h : Lk13 W w0 wr K L S kk X Y kr Sr FA BA B ff fb k k box) (hk : k < 16) (hne : FA ≠ BA) (h1 : w0.heap.size ≤ FA) (h2 : w0.heap.size ≤ BA) (hW : W.heap.size ≤ w0.heap.size) (hv : URow 0 wr v (ff k)) (hu : URow 0 wr u (fb k)) :
  Lk13 W w0 ((wr.setCell ⟨FA, k, none⟩ v).setCell ⟨BA, k, none⟩ u) K L S kk X Y kr Sr FA BA B ff fb (k + 1) (k + 1) box := by
 have u1 := Upd.setCell FA k wr v
 have u2 := Upd.setCell BA k (wr.setCell ⟨FA, k, none⟩ v) u
 obtain ⟨r1, e1, _⟩ := h.fa
 have f1 := h.fa.set hk hv
 have b1 : Was16 (wr.setCell ⟨FA, k, none⟩ v) BA fb k := h.ba.aside h.fa (fun q => hne q.symm)
 have hu' : URow 0 (wr.setCell ⟨FA, k, none⟩ v) u (fb k) := URow.upd hu u1 e1 (by decide)
 have x1 : (wr.setCell ⟨FA, k, none⟩ v).heap[B]? = some (.cells box 32) := (u1.block B (lt_of_heap h.bx) (heap_apart h.bx e1 (by decide))).trans h.bx
 have b2 := b1
 obtain ⟨r2, e2, _⟩ := b2
 have s1 := h.look.size
 have s2 := u1.size
 exact ⟨(h.look.over (u1.below h1 s1)).over (u2.below h2 (by omega)), (h.ref.put16 h.fa v).put16 b1 u, f1.aside b1 hne, b1.set hk hu',
   (u2.block B (lt_of_heap x1) (heap_apart x1 e2 (by decide))).trans x1, (h.bl.trans (u1.below (by omega) h.bl.size)).trans (u2.below (by omega) (by have := h.bl.size; omega))⟩
theorem Lk13.cells {k : Nat} {v : Value} (h : Lk13 W w0 wr K L S kk X Y kr Sr FA BA B ff fb nf nb box) (hk : k < 16) (hne : FA ≠ BA) :
  ((∃ u, wr.cell? ⟨FA, k, none⟩ = some u) ∧ wr.frozen? ⟨FA, k, none⟩ = false) ∧ ((∃ u, (wr.setCell ⟨FA, k, none⟩ v).cell? ⟨BA, k, none⟩ = some u) ∧ (wr.setCell ⟨FA, k, none⟩ v).frozen? ⟨BA, k, none⟩ = false) :=
 ⟨h.fa.cell hk, (h.ba.aside h.fa (fun q => hne q.symm)).cell hk⟩
theorem Was16.row {w : World} {A : Nat} {f : Nat → List Int} {k : Nat} (h : Was16 w A f k) {j : Nat} (hj : j < k) : ∃ r a c, w.heap[A]? = some (.cells r 45) ∧ r[j]? = some (.slice a (f j).length c) ∧ URow 0 w (.slice a (f j).length c) (f j) := by
 obtain ⟨r, h1, h2, h3⟩ := h
 obtain ⟨v, h4, h5⟩ := h3 j hj
 obtain ⟨a, c, e, _⟩ := h5.rdv
 subst e
 exact ⟨r, a, c, h1, h4, h5⟩
theorem urow_rd {w : World} {a : Option Addr} {c : Nat} {n : Nat} {xs : List Int} (h : URow 0 w (.slice a n c) xs) : n = xs.length ∧ Ip.Rd w a xs := by
 obtain ⟨a', c', e, _, hr⟩ := h.rdv
 simp only [Value.slice.injEq] at e
 obtain ⟨rfl, rfl, _⟩ := e
 exact ⟨rfl, hr⟩
def May13 (S S5 : XS) (e : Int) (ff fb : Nat → List Int) : Prop := ∀ i : Nat, (ff i = frmW S5.n S5.vs (i : Int) ∨ Ex.cnt S.T 768 (i : Int) = 0 ∨ Ca.hasB S.T e 1 (i : Int) 2 = true) ∧ (fb i = Xd.wordsW S5.d S5.l S5.ds (i : Int) ∨ Ca.hasB S.C e 2 (i : Int) 2 = true)
theorem may_raw {m : Nat} {e : Int} {ws : List Int} {a' : Option Addr} {c' : Nat} (hE : ExoAt wr K L (S.mv m)) (hI : XI S) (o : OkR (S.mv m)) (hl : (S.mv m).vs.length = (S.mv m).n * 32) (hff : ∀ i : Nat, ff i = frmW S.n S.vs (i : Int)) (hfb : ∀ i : Nat, fb i = Xd.wordsW S.d S.l S.ds (i : Int)) :
  May13 (S.mv m) (rawS (S.mv m) e ws a' c').1 e ff fb := by
 intro i
 have hS := rawS_same (S.mv m) e ws a' c'
 obtain ⟨h1, h2⟩ := rawS_writes (S := S.mv m) o.k hl (hI.mv m).tidy o.x e ws a' c' (i : Int) (by omega)
 rw [hS.n, hS.d, hff, hfb]
 exact ⟨h1.imp (fun q => q.symm) id, h2.imp (fun q => q.symm) id⟩
theorem Pair13.again {W wc wr : World} {i0 : Nat} (h : Pair13 W wc K L X Y i0 S) {m : Nat} (hE : ExoAt wr K L (S.mv m)) (hm : m ≤ i0 + 16) (hR : RefX wr X Y i0 S) (hb : Below W.heap.size W wr) : Pair13 W wr K L X Y (i0 + 16) (S.mv m) :=
 ⟨⟨hE, h.run.xi.mv m, hm, h.run.d, hb⟩, (hR.mono (by omega)).mv, h.n, h.M, h.q, h.rp⟩
end
end Go.Proofs.YtbhpafgoofkkmaaGreatDoor
