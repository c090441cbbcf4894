import Derived.Test.YtbhpafgoofkkmaaGreatDoorRkAll
import Derived.Test.YtbhpafgoofkkmaaGreatDoorRyAll
import Derived.Test.YtbhpafgoofkkmaaGreatDoorRnAll
import Derived.Test.YtbhpafgoofkkmaaGreatDoorRxB
set_option linter.all false
namespace Go.Proofs.YtbhpafgoofkkmaaGreatDoor
open Go.RowKit
structure RxL where
 J : Ip.RJ
 QM : Ex.RLay
 QD : Xd.Rq
 b1 : Nat
 b2 : Nat
 eg : Nat
def refTy (t : TypeId) : Prop := t = 57 ∨ t = 104 ∨ t = 70 ∨ t = 181 ∨ t = 27 ∨ t = 65
def itsTy (t : TypeId) : Prop := refTy t ∨ t = 178 ∨ t = 42 ∨ t = 107 ∨ t = 3 ∨ t = 225 ∨ t = 118
structure RefX (w : World) (X : Nat) (Y : RxL) (k : Nat) (S : XS) : Prop where
 mem : ∃ L last, Ex.RkAt w Y.J.p0 Y.QM S.n S.vs L last S.F ∧ Ca.Rel S.T L last ∧ 0 ≤ last ∧ L.length ≤ k ∧ last ≤ k
 disk : ∃ L last m, Xd.RkX w Y.J.p1 Y.QD S.d m S.ds S.l L last ∧ Ca.Rel S.C L last ∧ 0 ≤ last ∧ L.length ≤ k ∧ last ≤ k
 ipc : ∃ v L, Ip.RIs Y.J w X v L ∧ Ip.Rel L S.Q ∧ L.length ≤ k
 env : ∃ L V al cl cv au cu, En.RfIs w Y.b2 Y.J.p2 Y.eg al cl cv au cu L V [] ∧ L.length ≤ 100 ∧ ∀ e, L.contains e = En.isB S.E e
 m1 : ∀ q, Ex.RFoot Y.J.p0 Y.QM S.n q → q < Y.b1
 d1 : ∀ q, Xd.RF Y.J.p1 Y.QD q → Y.b1 ≤ q
 d2 : Y.b1 ≤ Y.QD.dx
 j1 : Y.b1 ≤ Y.J.M
 MS : Y.J.M ≤ w.heap.size
def MPart (X : Nat) (Q : Ex.RLay) (n k : Nat) : Prop := k = X ∨ k = Q.c ∨ k = Q.bx ∨ k = Q.gx ∨ Me.Rows? n Q.rs k
section
variable {w w' : World}
theorem RkAt.keepG {X : Nat} {Q : Ex.RLay} {n : Nat} {vs : List Int} {L : List Ca.Ce} {last : Int} {F : Ex.Pages} (h : Ex.RkAt w X Q n vs L last F) (hs : w.heap.size ≤ w'.heap.size) (hst : ∀ k, MPart X Q n k → w'.heap[k]? = w.heap[k]?)
  (hC : ∀ (k : Nat) (cs : Array Value) (fr : Nat × Nat), w.heap[k]? = some (.cells cs 107 fr) → w'.heap[k]? = some (.cells cs 107 fr)) : Ex.RkAt w' X Q n vs L last F := by
 obtain ⟨sv, hc⟩ := h.caps
 refine ⟨⟨h.tbl.1.keep (hst _ (Or.inl rfl)), h.tbl.2⟩, h.mem.keep (hst _ (Or.inr (Or.inr (Or.inl rfl)))) (hst _ (Or.inr (Or.inr (Or.inr (Or.inl rfl))))) (fun i hi => hst _ (Or.inr (Or.inr (Or.inr (Or.inr ⟨i, hi, rfl⟩))))),
   ⟨sv, ⟨(hst _ (Or.inr (Or.inl rfl))).trans hc.head, Ca.ownsRow_at hc.own (fun g hg => ?_), hc.nil⟩⟩, h.lo1, h.lo2, h.lo3, h.cX, h.XM, Nat.le_trans h.MS hs⟩
 obtain ⟨cs, hcs⟩ := Ip.own_type hc.own hg
 rw [hC _ _ _ hcs, hcs]
theorem RkAt.ty {X : Nat} {Q : Ex.RLay} {n : Nat} {vs : List Int} {L : List Ca.Ce} {last : Int} {F : Ex.Pages} (h : Ex.RkAt w X Q n vs L last F) {k : Nat} (hk : MPart X Q n k) :
  ∃ cs t fr, w.heap[k]? = some (.cells cs t fr) ∧ (t = 57 ∨ t = 104 ∨ t = 178 ∨ t = 27 ∨ t = 42) := by
 rcases hk with e | e | e | e | ⟨i, hi, e⟩
 ·obtain ⟨row, hr, _⟩ := h.tbl.1
  rw [e]; exact ⟨_, _, _, hr, Or.inl rfl⟩
 ·obtain ⟨sv, hc⟩ := h.caps
  rw [e]; exact ⟨_, _, _, hc.head, Or.inr (Or.inl rfl)⟩
 ·rw [e]; exact ⟨_, _, _, h.mem.head, Or.inr (Or.inr (Or.inl rfl))⟩
 ·obtain ⟨cs, fr, hg⟩ := h.mem.ty
  rw [e]; exact ⟨_, _, _, hg, Or.inr (Or.inr (Or.inr (Or.inl rfl)))⟩
 ·rw [e]; exact ⟨_, _, _, h.mem.row i hi, Or.inr (Or.inr (Or.inr (Or.inr rfl)))⟩
theorem foot_part {X : Nat} {Q : Ex.RLay} {n k : Nat} (h : Ex.RFoot X Q n k) : MPart X Q n k := by
 rcases h with e | e | e
 ·exact Or.inl e
 ·exact Or.inr (Or.inl e)
 ·exact Or.inr (Or.inr (Or.inr (Or.inr e)))
theorem RkAt.fty {X : Nat} {Q : Ex.RLay} {n : Nat} {vs : List Int} {L : List Ca.Ce} {last : Int} {F : Ex.Pages} (h : Ex.RkAt w X Q n vs L last F) {k : Nat} (hk : Ex.RFoot X Q n k) :
  ∃ cs t fr, w.heap[k]? = some (.cells cs t fr) ∧ (t = 57 ∨ t = 104 ∨ t = 42) := by
 rcases hk with e | e | ⟨i, hi, e⟩
 ·obtain ⟨row, hr, _⟩ := h.tbl.1
  rw [e]; exact ⟨_, _, _, hr, Or.inl rfl⟩
 ·obtain ⟨sv, hc⟩ := h.caps
  rw [e]; exact ⟨_, _, _, hc.head, Or.inr (Or.inl rfl)⟩
 ·rw [e]; exact ⟨_, _, _, h.mem.row i hi, Or.inr (Or.inr rfl)⟩
theorem RkX.ty {X : Nat} {Q : Xd.Rq} {n m : Nat} {vs : List Int} {l : Xd.Lines} {L : List Ca.Ce} {last : Int} (h : Xd.RkX w X Q n m vs l L last) {k : Nat} (hk : Xd.RF X Q k) :
  ∃ cs t fr, w.heap[k]? = some (.cells cs t fr) ∧ (t = 70 ∨ t = 181 ∨ t = 27 ∨ t = 104) := by
 obtain ⟨iv, nv, hx, _⟩ := h.head
 obtain ⟨gt, pt, hd, _⟩ := h.disk
 obtain ⟨row, hr, _⟩ := h.wrow
 obtain ⟨sv, hc⟩ := h.caps
 obtain ⟨cur, hh, _⟩ := hd.tab
 rcases hk with e | e | e | e | e
 ·rw [e]; exact ⟨_, _, _, hx, Or.inl rfl⟩
 ·rw [e]; exact ⟨_, _, _, hd.head, Or.inr (Or.inl rfl)⟩
 ·rw [e]; exact ⟨_, _, _, hh, Or.inr (Or.inr (Or.inl rfl))⟩
 ·rw [e]; exact ⟨_, _, _, hc.head, Or.inr (Or.inr (Or.inr rfl))⟩
 ·rw [e]; exact ⟨_, _, _, hr, Or.inr (Or.inr (Or.inl rfl))⟩
theorem ty_ne {P : Nat → Prop} {k : Nat} {cs : Array Value} {t : TypeId} {fr : Nat × Nat} {ok : TypeId → Prop} (hP : ∀ q, P q → ∃ cs t fr, w.heap[q]? = some (.cells cs t fr) ∧ ok t) (hk : w.heap[k]? = some (.cells cs t fr)) (hn : ¬ ok t) : ¬ P k := by
 intro q
 obtain ⟨cs', t', fr', e, o⟩ := hP k q
 rw [hk] at e
 simp only [Option.some.injEq, Obj.cells.injEq] at e
 obtain ⟨_, rfl, _⟩ := e
 exact hn o
theorem diff_upd (h1 : w'.os = w.os) (h2 : w'.tape = w.tape) (h3 : w'.output = w.output) (h4 : w.heap.size ≤ w'.heap.size) : UpdP (fun k => w'.heap[k]? ≠ w.heap[k]?) w w' :=
 ⟨h1, h2, h3, h4, fun k _ hn => Classical.not_not.1 hn⟩
variable {X : Nat} {Y : RxL} {k : Nat} {S : XS}
theorem RefX.keepTy (h : RefX w X Y k S) (h1 : w'.os = w.os) (h2 : w'.tape = w.tape) (h3 : w'.output = w.output) (h4 : w.heap.size ≤ w'.heap.size)
  (hk : ∀ (k : Nat) (cs : Array Value) (t : TypeId) (fr : Nat × Nat), w.heap[k]? = some (.cells cs t fr) → itsTy t → w'.heap[k]? = some (.cells cs t fr)) : RefX w' X Y k S := by
 obtain ⟨L1, l1, a1, a2⟩ := h.mem
 obtain ⟨L2, l2, m2, b1, b2⟩ := h.disk
 obtain ⟨v3, L3, c1, c2⟩ := h.ipc
 obtain ⟨L4, V4, al, cl, cv, au, cu, d1, d2⟩ := h.env
 refine ⟨⟨L1, l1, RkAt.keepG a1 h4 (fun q hq => ?_) (fun q cs fr hh => hk _ _ _ _ hh (Or.inr (Or.inr (Or.inr (Or.inl rfl))))), a2⟩, ⟨L2, l2, m2, b1.keepP (diff_upd h1 h2 h3 h4) (fun q hq => ?_) (fun q hq => ⟨fun cur fr hh => ?_, fun cur fr hh => ?_, fun cur fr hh => ?_⟩), b2⟩,
   ⟨v3, L3, c1.keep (fun q cs t fr hh ht => hk _ _ _ _ hh (by rcases ht with rfl | rfl | rfl <;> (unfold itsTy refTy; decide))), c2⟩,
   ⟨L4, V4, al, cl, cv, au, cu, d1.keepT (fun q cs t fr hh ht => hk _ _ _ _ hh (by rcases ht with rfl | rfl <;> (unfold itsTy refTy; decide))), d2⟩, h.m1, h.d1, h.d2, h.j1, Nat.le_trans h.MS h4⟩
 ·obtain ⟨cs, t, fr, e, o⟩ := RkAt.ty a1 hq
  rw [e]
  refine hk _ _ _ _ e ?_
  rcases o with rfl | rfl | rfl | rfl | rfl
  ·exact Or.inl (Or.inl rfl)
  ·exact Or.inl (Or.inr (Or.inl rfl))
  ·exact Or.inr (Or.inl rfl)
  ·exact Or.inl (Or.inr (Or.inr (Or.inr (Or.inr (Or.inl rfl)))))
  ·exact Or.inr (Or.inr (Or.inl rfl))
 ·obtain ⟨cs, t, fr, e, o⟩ := RkX.ty b1 hq
  refine fun hd => hd ?_
  rw [e]
  refine hk _ _ _ _ e (Or.inl ?_)
  rcases o with rfl | rfl | rfl | rfl
  ·exact Or.inr (Or.inr (Or.inl rfl))
  ·exact Or.inr (Or.inr (Or.inr (Or.inl rfl)))
  ·exact Or.inr (Or.inr (Or.inr (Or.inr (Or.inl rfl))))
  ·exact Or.inr (Or.inl rfl)
 ·exact hq ((hk _ _ _ _ hh (Or.inr (Or.inr (Or.inl rfl)))).trans hh.symm)
 ·exact hq ((hk _ _ _ _ hh (Or.inr (Or.inr (Or.inr (Or.inr (Or.inl rfl)))))).trans hh.symm)
 ·exact hq ((hk _ _ _ _ hh (Or.inr (Or.inr (Or.inr (Or.inl rfl))))).trans hh.symm)
theorem RefX.below (h : RefX w X Y k S) (hb : Below w.heap.size w w') : RefX w' X Y k S :=
 h.keepTy hb.os hb.tape hb.output hb.size (fun q cs t fr hh _ => (hb.block q (lt_of_heap hh)).trans hh)
theorem RefX.tch {K : Nat} {L : XL} {S0 : XS} {i : Prop} (h : RefX w X Y k S) (ht : XTch L i w w') (hE : ExoAt w K L S0) : RefX w' X Y k S :=
 h.keepTy ht.os ht.tape ht.output ht.size (fun q cs t fr hh o => ht.other hE hh (by
   unfold itsTy refTy at o
   rcases o with (rfl | rfl | rfl | rfl | rfl | rfl) | rfl | rfl | rfl | rfl | rfl | rfl <;> decide))
theorem RefX.mono {k' : Nat} (h : RefX w X Y k S) (hk : k ≤ k') : RefX w X Y k' S := by
 obtain ⟨L1, l1, a1, a2, a3, a4, a5⟩ := h.mem
 obtain ⟨L2, l2, m2, b1, b2, b3, b4, b5⟩ := h.disk
 obtain ⟨v3, L3, c1, c2, c3⟩ := h.ipc
 exact ⟨⟨L1, l1, a1, a2, a3, by omega, by omega⟩, ⟨L2, l2, m2, b1, b2, b3, by omega, by omega⟩, ⟨v3, L3, c1, c2, by omega⟩, h.env, h.m1, h.d1, h.d2, h.j1, h.MS⟩
theorem RefX.updM (h : RefX w X Y k S) {k' : Nat} (hk : k ≤ k') {vs : List Int} {T : Ca.Tab} {F : Ex.Pages} (hm : ∃ L last, Ex.RkAt w' Y.J.p0 Y.QM S.n vs L last F ∧ Ca.Rel T L last ∧ 0 ≤ last ∧ L.length ≤ k' ∧ last ≤ k') (hu : UpdP (Ex.RFoot Y.J.p0 Y.QM S.n) w w') : RefX w' X Y k' { S with vs := vs, T := T, F := F } := by
 obtain ⟨L1, l1, a1, a2⟩ := h.mem
 obtain ⟨L2, l2, m2, b1, b2, b3, b4, b5⟩ := h.disk
 obtain ⟨v3, L3, c1, c2, c3⟩ := h.ipc
 obtain ⟨L4, V4, al, cl, cv, au, cu, d1, d2⟩ := h.env
 have hno : ∀ {q : Nat} {cs : Array Value} {t : TypeId} {fr : Nat × Nat}, w.heap[q]? = some (.cells cs t fr) → ¬ (t = 57 ∨ t = 104 ∨ t = 42) → ¬ Ex.RFoot Y.J.p0 Y.QM S.n q := fun e hn => ty_ne (fun q hq => RkAt.fty a1 hq) e hn
 have hsame : ∀ {q : Nat} {cs : Array Value} {t : TypeId} {fr : Nat × Nat}, w.heap[q]? = some (.cells cs t fr) → ¬ Ex.RFoot Y.J.p0 Y.QM S.n q → w'.heap[q]? = some (.cells cs t fr) := fun e hn => (hu.block _ (lt_of_heap e) hn).trans e
 refine ⟨hm, ⟨L2, l2, m2, b1.keepM hu (fun q hq hf => ?_) (fun q hq => ⟨fun hd => ?_, fun cur fr e => hno e (by decide) hq, fun cur fr e => hno e (by decide) hq⟩), b2, b3, by omega, by omega⟩,
   ⟨v3, L3, c1.keepM (fun q cs t fr e o => hsame e ?_), c2, by omega⟩, ⟨L4, V4, al, cl, cv, au, cu, d1.keepT (fun q cs t fr e o => hsame e (hno e (by rcases o with rfl | rfl <;> decide))), d2⟩, h.m1, h.d1, h.d2, h.j1, Nat.le_trans h.MS hu.size⟩
 ·have := h.m1 q hf
  have := h.d1 q hq
  omega
 ·have := h.m1 q hq
  have := h.d2
  omega
 ·rcases o with rfl | rfl | ⟨rfl, hJ⟩
  ·exact hno e (by decide)
  ·exact hno e (by decide)
  ·intro hf
   have := h.m1 q hf
   have := h.j1
   omega
theorem RefX.updD (h : RefX w X Y k S) {k' : Nat} (hk : k ≤ k') {m' : Nat} {l : Xd.Lines} {C : Ca.Tab} (hm : ∃ L last m, Xd.RkX w' Y.J.p1 Y.QD S.d m S.ds l L last ∧ Ca.Rel C L last ∧ 0 ≤ last ∧ L.length ≤ k' ∧ last ≤ k') (hu : UpdP (Xd.RF Y.J.p1 Y.QD) w w') : RefX w' X Y k' { S with m := m', ds := S.ds, l := l, C := C } := by
 obtain ⟨L1, l1, a1, a2, a3, a4, a5⟩ := h.mem
 obtain ⟨L2, l2, m2, b1, b2⟩ := h.disk
 obtain ⟨v3, L3, c1, c2, c3⟩ := h.ipc
 obtain ⟨L4, V4, al, cl, cv, au, cu, d1, d2⟩ := h.env
 have hno : ∀ {q : Nat} {cs : Array Value} {t : TypeId} {fr : Nat × Nat}, w.heap[q]? = some (.cells cs t fr) → ¬ (t = 70 ∨ t = 181 ∨ t = 27 ∨ t = 104) → w'.heap[q]? = some (.cells cs t fr) := fun e hn => (hu.block _ (lt_of_heap e) (ty_ne (fun q hq => RkX.ty b1 hq) e hn)).trans e
 have hlow : ∀ q, MPart Y.J.p0 Y.QM S.n q → q < Y.b1 := by
  have h1 := h.m1 _ (Or.inl rfl)
  have h2 := a1.cX
  have h3 := a1.lo1
  have h4 := a1.lo2
  rintro q (e | e | e | e | e)
  ·omega
  ·omega
  ·omega
  ·omega
  ·exact h.m1 q (Or.inr (Or.inr e))
 refine ⟨⟨L1, l1, RkAt.keepG a1 hu.size (fun q hq => ?_) (fun q cs fr e => hno e (by decide)), a2, a3, by omega, by omega⟩, hm, ⟨v3, L3, c1.keep (fun q cs t fr e o => hno e (by rcases o with rfl | rfl | rfl <;> decide)), c2, by omega⟩,
   ⟨L4, V4, al, cl, cv, au, cu, d1.keepT (fun q cs t fr e o => hno e (by rcases o with rfl | rfl <;> decide)), d2⟩, h.m1, h.d1, h.d2, h.j1, Nat.le_trans h.MS hu.size⟩
 obtain ⟨cs, t, fr, e, _⟩ := RkAt.ty a1 hq
 refine hu.block q (lt_of_heap e) (fun hf => ?_)
 have := hlow q hq
 have := h.d1 q hf
 omega
theorem RefX.updI (h : RefX w X Y k S) {k' : Nat} (hk : k ≤ k') {Q : Ip.QS} (hm : ∃ v L, Ip.RIs Y.J w' X v L ∧ Ip.Rel L Q ∧ L.length ≤ k') (hu : Upd X w w') : RefX w' X Y k' { S with Q := Q } := by
 obtain ⟨L1, l1, a1, a2, a3, a4, a5⟩ := h.mem
 obtain ⟨L2, l2, m2, b1, b2, b3, b4, b5⟩ := h.disk
 obtain ⟨v3, L3, c1, c2, c3⟩ := h.ipc
 obtain ⟨L4, V4, al, cl, cv, au, cu, d1, d2⟩ := h.env
 have hup : UpdP (fun q => q = X) w w' := hu.p _ rfl
 have hne : ∀ {q : Nat} {cs : Array Value} {t : TypeId} {fr : Nat × Nat}, w.heap[q]? = some (.cells cs t fr) → t ≠ 65 → q ≠ X := fun e hn => heap_apart e c1.head hn
 have hno : ∀ {q : Nat} {cs : Array Value} {t : TypeId} {fr : Nat × Nat}, w.heap[q]? = some (.cells cs t fr) → t ≠ 65 → w'.heap[q]? = some (.cells cs t fr) := fun e hn => (hu.block _ (lt_of_heap e) (hne e hn)).trans e
 refine ⟨⟨L1, l1, RkAt.keepG a1 hu.size (fun q hq => ?_) (fun q cs fr e => hno e (by decide)), a2, a3, by omega, by omega⟩, ⟨L2, l2, m2, b1.keepP hup (fun q hq => ?_) (fun q hq => ?_), b2, b3, by omega, by omega⟩, hm,
   ⟨L4, V4, al, cl, cv, au, cu, d1.keepT (fun q cs t fr e o => hno e (by rcases o with rfl | rfl <;> decide)), d2⟩, h.m1, h.d1, h.d2, h.j1, Nat.le_trans h.MS hu.size⟩
 ·obtain ⟨cs, t, fr, e, o⟩ := RkAt.ty a1 hq
  rw [hno e (by rcases o with rfl | rfl | rfl | rfl | rfl <;> decide), e]
 ·obtain ⟨cs, t, fr, e, o⟩ := RkX.ty b1 hq
  exact hne e (by rcases o with rfl | rfl | rfl | rfl <;> decide)
 ·rw [hq]
  exact Xd.noT_of c1.head (by decide) (by decide) (by decide)
def RP (X : Nat) (Y : RxL) (n q : Nat) : Prop := Ex.RFoot Y.J.p0 Y.QM n q ∨ Xd.RF Y.J.p1 Y.QD q ∨ q = X
theorem RefX.rp (h : RefX w X Y k S) : ∀ q, RP X Y S.n q → ∃ cs t fr, w.heap[q]? = some (.cells cs t fr) ∧ (refTy t ∨ (t = 42 ∧ q < Y.b1)) := by
 obtain ⟨L1, l1, a1, _⟩ := h.mem
 obtain ⟨L2, l2, m2, b1, _⟩ := h.disk
 obtain ⟨v3, L3, c1, _⟩ := h.ipc
 rintro q (hq | hq | rfl)
 ·obtain ⟨cs, t, fr, e, o⟩ := RkAt.fty a1 hq
  refine ⟨cs, t, fr, e, ?_⟩
  rcases o with rfl | rfl | rfl
  ·exact Or.inl (Or.inl rfl)
  ·exact Or.inl (Or.inr (Or.inl rfl))
  ·exact Or.inr ⟨rfl, h.m1 q hq⟩
 ·obtain ⟨cs, t, fr, e, o⟩ := RkX.ty b1 hq
  refine ⟨cs, t, fr, e, Or.inl ?_⟩
  rcases o with rfl | rfl | rfl | rfl
  ·exact Or.inr (Or.inr (Or.inl rfl))
  ·exact Or.inr (Or.inr (Or.inr (Or.inl rfl)))
  ·exact Or.inr (Or.inr (Or.inr (Or.inr (Or.inl rfl))))
  ·exact Or.inr (Or.inl rfl)
 ·exact ⟨_, _, _, c1.head, Or.inl (Or.inr (Or.inr (Or.inr (Or.inr (Or.inr rfl)))))⟩
end
theorem IpcAt.keptM {w w' : World} {B b M : Nat} {Q : Ip.QS} (h : Ip.IpcAt w B b Q) (hN : ∀ j, j < 12 → ∀ m ∈ Q j, Ip.NewA M m.a) (hk : ∀ (k : Nat) (cs : Array Value) (t : TypeId) (fr : Nat × Nat), w.heap[k]? = some (.cells cs t fr) → (t = 173 ∨ t = 176 ∨ (t = 42 ∧ M ≤ k)) → w'.heap[k]? = some (.cells cs t fr)) : Ip.IpcAt w' B b Q := by
 obtain ⟨V, h⟩ := h
 obtain ⟨row, hr, h1⟩ := h.head
 refine ⟨V, ⟨row, hk _ _ _ _ hr (Or.inl rfl), h1⟩, fun j hj => Ip.ownsRow_at (h.own j hj) (fun g hg => ?_), h.sep, fun j hj m hm => (h.wd j hj m hm).keepM (hN j hj m hm) (fun k cs fr hM hh => hk _ _ _ _ hh (Or.inr (Or.inr ⟨rfl, hM⟩))), h.len, h.bB⟩
 obtain ⟨cs, hcs⟩ := Ip.own_type (h.own j hj) hg
 rw [hcs]
 exact hk _ _ _ _ hcs (Or.inr (Or.inl rfl))
theorem ExoAt.keepRef {w w' : World} {K M : Nat} {L : XL} {S : XS} {P : Nat → Prop} (h : ExoAt w K L S) (hu : UpdP P w w') (hP : ∀ q, P q → ∃ cs t fr, w.heap[q]? = some (.cells cs t fr) ∧ (refTy t ∨ (t = 42 ∧ q < M))) (hM : M ≤ L.D.M) (hQ : ∀ j, j < 12 → ∀ m ∈ S.Q j, Ip.NewA M m.a) : ExoAt w' K L S := by
 obtain ⟨row, hr, _⟩ := h.env.head
 have hno : ∀ {k : Nat} {cs : Array Value} {t : TypeId} {fr : Nat × Nat}, w.heap[k]? = some (.cells cs t fr) → ¬ refTy t → (t = 42 → M ≤ k) → ¬ P k := by
  intro k cs t fr e h1 h2 hp
  obtain ⟨cs', t', fr', e', o⟩ := hP k hp
  rw [e] at e'
  simp only [Option.some.injEq, Obj.cells.injEq] at e'
  obtain ⟨_, rfl, _⟩ := e'
  rcases o with o | ⟨rfl, o⟩
  ·exact h1 o
  ·have := h2 rfl
   omega
 have hk : ∀ {k : Nat} {cs : Array Value} {t : TypeId} {fr : Nat × Nat}, w.heap[k]? = some (.cells cs t fr) → ¬ refTy t → (t = 42 → M ≤ k) → w'.heap[k]? = some (.cells cs t fr) := fun e h1 h2 => (hu.block _ (lt_of_heap e) (hno e h1 h2)).trans e
 refine ⟨hk h.head (by unfold refTy; decide) (fun q => absurd q (by decide)), ker_keep h.mem (fun k hkb => ?_), h.env.keep ((hk hr (by unfold refTy; decide) (fun q => absurd q (by decide))).trans hr.symm) ((hk h.env.vec (by unfold refTy; decide) (fun q => absurd q (by decide))).trans h.env.vec.symm), IpcAt.keptM h.ipc hQ (fun k cs t fr e o => hk e (by rcases o with rfl | rfl | ⟨rfl, _⟩ <;> (unfold refTy; decide)) (by rcases o with rfl | rfl | ⟨rfl, ho⟩; exact fun q => absurd q (by decide); exact fun q => absurd q (by decide); exact fun _ => ho)),
   h.disk.keepM hu (hno h.disk.head (by unfold refTy; decide) (fun q => absurd q (by decide))) (fun k hx => ?_) (fun k hp hMk cur fr e => ?_), h.ne, Nat.le_trans h.lowB hu.size⟩
 ·rcases kb_is h.mem hkb with ⟨es, c', e⟩ | ⟨cs, t, e, o⟩
  ·refine hu.block k (lt_of_heap e) (fun hp => ?_)
   obtain ⟨cs', t', fr', e', _⟩ := hP k hp
   rw [e] at e'
   cases e'
  ·refine hu.block k (lt_of_heap e) (hno e ?_ ?_)
   ·rcases o with rfl | rfl | rfl | ⟨rfl, _⟩ | rfl <;> (unfold refTy; decide)
   ·rcases o with rfl | rfl | rfl | ⟨rfl, _⟩ | rfl <;> exact fun q => absurd q (by decide)
 ·obtain ⟨cs, t, e, o⟩ := xfoot_is h.disk hx
  refine hno e ?_ ?_
  ·rcases o with rfl | rfl | rfl | ⟨rfl, _⟩ <;> (unfold refTy; decide)
  ·rcases o with rfl | rfl | rfl | ⟨rfl, _⟩ <;> exact fun q => absurd q (by decide)
 ·exact hno e (by unfold refTy; decide) (fun _ => Nat.le_trans hM hMk) hp
theorem ExoAt.rebase {w : World} {K : Nat} {L : XL} {S : XS} (h : ExoAt w K L S) (hl : ∀ i, (S.l i).1 = none) {M : Nat} (hM : M ≤ w.heap.size) : ExoAt w K { L with D := { L.D with M := M } } S := by
 refine ⟨h.head, h.mem, h.env, h.ipc, ⟨h.disk.head, h.disk.disk, ?_, h.disk.caps, h.disk.inv, h.disk.linv, h.disk.n1, h.disk.n2, hM⟩, h.ne, h.lowB⟩
 obtain ⟨row, hr, hs, hc⟩ := h.disk.lines
 refine ⟨row, hr, hs, fun i hi => ?_⟩
 obtain ⟨v, h1, h2, h3⟩ := hc i hi
 refine ⟨v, h1, h2, h3.1, fun ws e => ?_⟩
 rw [hl i] at e
 cases e
end Go.Proofs.YtbhpafgoofkkmaaGreatDoor
