import Derived.Test.YtbhpafgoofkkmaaGreatDoorExAll
import Derived.Test.YtbhpafgoofkkmaaGreatDoorXdAll
import Derived.Test.YtbhpafgoofkkmaaGreatDoorEnvAll
import Derived.Test.YtbhpafgoofkkmaaGreatDoorIpcAll
import Derived.Test.YtbhpafgoofkkmaaGreatDoorWrB
set_option linter.all false
namespace Go.Proofs.YtbhpafgoofkkmaaGreatDoor
open Go.RowKit
abbrev ptr (b : Nat) : Value := .pointer (some ⟨b, 0, none⟩)
structure XS where
 n : Nat
 vs : List Int
 T : Ca.Tab
 F : Ex.Pages
 E : En.ES
 V : List Int
 Q : Ip.QS
 d : Nat
 m : Nat
 ds : List Int
 l : Xd.Lines
 C : Ca.Tab
structure XL where
 ek : Nat
 Y : Ex.Lay
 eb : Nat
 eg : Nat
 iB : Nat
 ib : Nat
 dk : Nat
 D : Xd.Yd
structure ExoAt (w : World) (K : Nat) (L : XL) (S : XS) : Prop where
 head : w.heap[K]? = some (.cells #[ptr L.ek, ptr L.eb, ptr L.ib, ptr L.dk] 81)
 mem : Ex.KerAt w L.ek L.Y S.n S.vs S.T S.F
 env : En.EnvAt w L.eb L.eg S.E S.V
 ipc : Ip.IpcAt w L.iB L.ib S.Q
 disk : Xd.KAt w L.dk L.D S.d S.m S.ds S.l S.C
 ne : L.Y.cb ≠ L.D.cb
 lowB : L.iB ≤ w.heap.size
theorem heap_apart {w : World} {a b : Nat} {r r' : Array Value} {t t' : TypeId} {q q' : Nat × Nat} (h : w.heap[a]? = some (.cells r t q)) (h' : w.heap[b]? = some (.cells r' t' q')) (hn : t ≠ t') : a ≠ b := by
 intro e
 subst e
 rw [h] at h'
 injection h' with h1
 injection h1 with _ h2
 exact hn h2
def KB (K : Nat) (Y : Ex.Lay) (k : Nat) : Prop := k = K ∨ k = Y.mb ∨ k = Y.g ∨ k = Y.cb ∨ ∃ e, e < 12 ∧ (k = Y.tb e ∨ k = Y.mp e)
theorem ker_keep {w w' : World} {K : Nat} {Y : Ex.Lay} {n : Nat} {vs : List Int} {T : Ca.Tab} {F : Ex.Pages} (h : Ex.KerAt w K Y n vs T F) (hs : ∀ k, KB K Y k → w'.heap[k]? = w.heap[k]?) : Ex.KerAt w' K Y n vs T F :=
 ⟨h.head.keep (hs _ (Or.inl rfl)), h.mem.keep (hs _ (Or.inr (Or.inl rfl))) (hs _ (Or.inr (Or.inr (Or.inl rfl)))), h.caps.keep (hs _ (Or.inr (Or.inr (Or.inr (Or.inl rfl))))),
   fun e he => (h.tbl e he).keep (hs _ (Or.inr (Or.inr (Or.inr (Or.inr ⟨e, he, Or.inl rfl⟩))))) (hs _ (Or.inr (Or.inr (Or.inr (Or.inr ⟨e, he, Or.inr rfl⟩))))), h.inj, h.inv, h.n1, h.n2, h.pg⟩
theorem kb_is {w : World} {K : Nat} {Y : Ex.Lay} {n : Nat} {vs : List Int} {T : Ca.Tab} {F : Ex.Pages} (h : Ex.KerAt w K Y n vs T F) {k : Nat} (hk : KB K Y k) :
  (∃ es c, w.heap[k]? = some (.map es c)) ∨ ∃ cs t, w.heap[k]? = some (.cells cs t) ∧ (t = 188 ∨ t = 239 ∨ t = 236 ∨ (t = 250 ∧ k = Y.cb) ∨ t = 253) := by
 rcases hk with e | e | e | e | ⟨i, hi, e | e⟩
 ·obtain ⟨row, hr, _⟩ := h.head
  rw [e]; exact Or.inr ⟨_, _, hr, Or.inl rfl⟩
 ·rw [e]; exact Or.inr ⟨_, _, h.mem.head, Or.inr (Or.inl rfl)⟩
 ·rw [e]; exact Or.inr ⟨_, _, h.mem.row, Or.inr (Or.inr (Or.inl rfl))⟩
 ·obtain ⟨row, hr, _⟩ := h.caps.head
  rw [e]; exact Or.inr ⟨_, _, hr, Or.inr (Or.inr (Or.inr (Or.inl ⟨rfl, rfl⟩)))⟩
 ·rw [e]; exact Or.inr ⟨_, _, (h.tbl i hi).head, Or.inr (Or.inr (Or.inr (Or.inr rfl)))⟩
 ·obtain ⟨es, c, hb, _⟩ := (h.tbl i hi).map
  rw [e]; exact Or.inl ⟨es, c, hb⟩
theorem foot_is {w : World} {K : Nat} {Y : Ex.Lay} {n : Nat} {vs : List Int} {T : Ca.Tab} {F : Ex.Pages} (h : Ex.KerAt w K Y n vs T F) {k : Nat} (hk : Ex.Foot Y k) :
  (∃ es c, w.heap[k]? = some (.map es c)) ∨ ∃ cs t, w.heap[k]? = some (.cells cs t) ∧ (t = 236 ∨ (t = 250 ∧ k = Y.cb)) := by
 rcases hk with e | e | ⟨i, hi, e⟩
 ·rw [e]; exact Or.inr ⟨_, _, h.mem.row, Or.inl rfl⟩
 ·obtain ⟨row, hr, _⟩ := h.caps.head
  rw [e]; exact Or.inr ⟨_, _, hr, Or.inr ⟨rfl, rfl⟩⟩
 ·obtain ⟨es, c, hb, _⟩ := (h.tbl i hi).map
  rw [e]; exact Or.inl ⟨es, c, hb⟩
theorem xfoot_is {w : World} {K : Nat} {Y : Xd.Yd} {n m : Nat} {vs : List Int} {l : Xd.Lines} {T : Ca.Tab} (h : Xd.KAt w K Y n m vs l T) {k : Nat} (hk : Xd.XFoot Y k) :
  ∃ cs t, w.heap[k]? = some (.cells cs t) ∧ (t = 242 ∨ t = 272 ∨ t = 294 ∨ (t = 250 ∧ k = Y.cb)) := by
 obtain ⟨gt, pt, hd, _⟩ := h.disk
 rcases hk with e | e | e | e
 ·obtain ⟨row, hr, _⟩ := h.lines
  rw [e]; exact ⟨_, _, hr, Or.inl rfl⟩
 ·rw [e]; exact ⟨_, _, hd.head, Or.inr (Or.inl rfl)⟩
 ·rw [e]; exact ⟨_, _, hd.row, Or.inr (Or.inr (Or.inl rfl))⟩
 ·obtain ⟨row, hr, _⟩ := h.caps.head
  rw [e]; exact ⟨_, _, hr, Or.inr (Or.inr (Or.inr ⟨rfl, rfl⟩))⟩
theorem not_foot {w : World} {K : Nat} {Y : Ex.Lay} {n : Nat} {vs : List Int} {T : Ca.Tab} {F : Ex.Pages} (h : Ex.KerAt w K Y n vs T F) {k : Nat} {cs : Array Value} {t : TypeId} {fr : Nat × Nat} (hk : w.heap[k]? = some (.cells cs t fr)) (h1 : t ≠ 236) (h2 : t ≠ 250) : ¬ Ex.Foot Y k := by
 intro hf
 rcases foot_is h hf with ⟨es, c, e⟩ | ⟨cs', t', e, o⟩
 ·rw [hk] at e; cases e
 ·rw [hk] at e
  simp only [Option.some.injEq, Obj.cells.injEq] at e
  obtain ⟨_, rfl, _⟩ := e
  rcases o with o | ⟨o, _⟩
  ·exact h1 o
  ·exact h2 o
theorem not_xfoot {w : World} {K : Nat} {Y : Xd.Yd} {n m : Nat} {vs : List Int} {l : Xd.Lines} {T : Ca.Tab} (h : Xd.KAt w K Y n m vs l T) {k : Nat} {cs : Array Value} {t : TypeId} {fr : Nat × Nat} (hk : w.heap[k]? = some (.cells cs t fr)) (h1 : t ≠ 242) (h2 : t ≠ 272) (h3 : t ≠ 294) (h4 : t ≠ 250) : ¬ Xd.XFoot Y k := by
 intro hf
 obtain ⟨cs', t', e, o⟩ := xfoot_is h hf
 rw [hk] at e
 simp only [Option.some.injEq, Obj.cells.injEq] at e
 obtain ⟨_, rfl, _⟩ := e
 rcases o with o | o | o | ⟨o, _⟩
 ·exact h1 o
 ·exact h2 o
 ·exact h3 o
 ·exact h4 o
section
variable {w w' w2 : World} {K : Nat} {L : XL} {S : XS}
theorem ExoAt.k0 (h : ExoAt w K L S) : w.cell? ⟨K, 0, none⟩ = some (ptr L.ek) := by rw [cell_of_heap h.head]; rfl
theorem ExoAt.k1 (h : ExoAt w K L S) : w.cell? ⟨K, 1, none⟩ = some (ptr L.eb) := by rw [cell_of_heap h.head]; rfl
theorem ExoAt.k2 (h : ExoAt w K L S) : w.cell? ⟨K, 2, none⟩ = some (ptr L.ib) := by rw [cell_of_heap h.head]; rfl
theorem ExoAt.k3 (h : ExoAt w K L S) : w.cell? ⟨K, 3, none⟩ = some (ptr L.dk) := by rw [cell_of_heap h.head]; rfl
theorem ExoAt.lt (h : ExoAt w K L S) : K < w.heap.size := lt_of_heap h.head
theorem ExoAt.below (h : ExoAt w K L S) (hb : Below w.heap.size w w') : ExoAt w' K L S :=
 ⟨(hb.block _ h.lt).trans h.head, h.mem.below hb, h.env.below hb, h.ipc.below hb, h.disk.below hb, h.ne, Nat.le_trans h.lowB hb.size⟩
theorem ExoAt.cross (h : ExoAt w K L S) : ∀ k, Xd.XFoot L.D k → ¬ Ex.Foot L.Y k := by
 intro k hx hf
 obtain ⟨cs, t, e, o⟩ := xfoot_is h.disk hx
 rcases foot_is h.mem hf with ⟨es, c, e'⟩ | ⟨cs', t', e', o'⟩
 ·rw [e] at e'; cases e'
 ·rw [e] at e'
  simp only [Option.some.injEq, Obj.cells.injEq] at e'
  obtain ⟨_, rfl, _⟩ := e'
  rcases o with o | o | o | ⟨o, ok⟩
  ·rcases o' with o' | ⟨o', _⟩ <;> (rw [o] at o'; exact absurd o' (by decide))
  ·rcases o' with o' | ⟨o', _⟩ <;> (rw [o] at o'; exact absurd o' (by decide))
  ·rcases o' with o' | ⟨o', _⟩ <;> (rw [o] at o'; exact absurd o' (by decide))
  ·rcases o' with o' | ⟨o', ok'⟩
   ·rw [o] at o'; exact absurd o' (by decide)
   ·exact h.ne (ok'.symm.trans ok)
theorem ExoAt.updM (h : ExoAt w K L S) {vs : List Int} {T : Ca.Tab} {F : Ex.Pages} (hm : Ex.KerAt w' L.ek L.Y S.n vs T F) (hu : UpdP (Ex.Foot L.Y) w w') : ExoAt w' K L { S with vs := vs, T := T, F := F } := by
 obtain ⟨row, hr, _⟩ := h.env.head
 have hk : ∀ (k : Nat) (cs : Array Value) (t : TypeId) (fr : Nat × Nat), w.heap[k]? = some (.cells cs t fr) → t ≠ 236 → t ≠ 250 → w'.heap[k]? = some (.cells cs t fr) := fun k cs t fr hk h1 h2 => (hu.block k (lt_of_heap hk) (not_foot h.mem hk h1 h2)).trans hk
 refine ⟨hk _ _ _ _ h.head (by decide) (by decide), hm, h.env.keep ((hk _ _ _ _ hr (by decide) (by decide)).trans hr.symm) ((hk _ _ _ _ h.env.vec (by decide) (by decide)).trans h.env.vec.symm),
   h.ipc.kept (fun k cs t fr e o => hk k cs t fr e (by rcases o with rfl | rfl | rfl <;> decide) (by rcases o with rfl | rfl | rfl <;> decide)),
   h.disk.keepP hu (not_foot h.mem h.disk.head (by decide) (by decide)) h.cross (fun k hf cur fr e => not_foot h.mem e (by decide) (by decide) hf), h.ne, Nat.le_trans h.lowB hu.size⟩
theorem ExoAt.updD (h : ExoAt w K L S) {m : Nat} {ds : List Int} {l : Xd.Lines} {C : Ca.Tab} (hm : Xd.KAt w' L.dk L.D S.d m ds l C) (hu : UpdP (Xd.XFoot L.D) w w') : ExoAt w' K L { S with m := m, ds := ds, l := l, C := C } := by
 obtain ⟨row, hr, _⟩ := h.env.head
 have hk : ∀ (k : Nat) (cs : Array Value) (t : TypeId) (fr : Nat × Nat), w.heap[k]? = some (.cells cs t fr) → t ≠ 242 → t ≠ 272 → t ≠ 294 → t ≠ 250 → w'.heap[k]? = some (.cells cs t fr) := fun k cs t fr hk h1 h2 h3 h4 => (hu.block k (lt_of_heap hk) (not_xfoot h.disk hk h1 h2 h3 h4)).trans hk
 refine ⟨hk _ _ _ _ h.head (by decide) (by decide) (by decide) (by decide), ker_keep h.mem (fun k hkb => ?_), h.env.keep ((hk _ _ _ _ hr (by decide) (by decide) (by decide) (by decide)).trans hr.symm) ((hk _ _ _ _ h.env.vec (by decide) (by decide) (by decide) (by decide)).trans h.env.vec.symm),
   h.ipc.kept (fun k cs t fr e o => hk k cs t fr e (by rcases o with rfl | rfl | rfl <;> decide) (by rcases o with rfl | rfl | rfl <;> decide) (by rcases o with rfl | rfl | rfl <;> decide) (by rcases o with rfl | rfl | rfl <;> decide)),
   hm, h.ne, Nat.le_trans h.lowB hu.size⟩
 have hlt : k < w.heap.size := by
  rcases kb_is h.mem hkb with ⟨es, c, e⟩ | ⟨cs, t, e, _⟩
  ·exact lt_of_heap e
  ·exact lt_of_heap e
 refine hu.block k hlt (fun hx => ?_)
 obtain ⟨cs, t, e, o⟩ := xfoot_is h.disk hx
 rcases kb_is h.mem hkb with ⟨es, c, e'⟩ | ⟨cs', t', e', o'⟩
 ·rw [e] at e'; cases e'
 ·rw [e] at e'
  simp only [Option.some.injEq, Obj.cells.injEq] at e'
  obtain ⟨_, rfl, _⟩ := e'
  rcases o with o | o | o | ⟨o, ok⟩
  ·rcases o' with o' | o' | o' | ⟨o', _⟩ | o' <;> (rw [o] at o'; exact absurd o' (by decide))
  ·rcases o' with o' | o' | o' | ⟨o', _⟩ | o' <;> (rw [o] at o'; exact absurd o' (by decide))
  ·rcases o' with o' | o' | o' | ⟨o', _⟩ | o' <;> (rw [o] at o'; exact absurd o' (by decide))
  ·rcases o' with o' | o' | o' | ⟨o', ok'⟩ | o'
   ·rw [o] at o'; exact absurd o' (by decide)
   ·rw [o] at o'; exact absurd o' (by decide)
   ·rw [o] at o'; exact absurd o' (by decide)
   ·exact h.ne (ok'.symm.trans ok)
   ·rw [o] at o'; exact absurd o' (by decide)
theorem ExoAt.updI (h : ExoAt w K L S) {Q : Ip.QS} (hm : Ip.IpcAt w' L.iB L.ib Q) (hu : Ip.Tch L.iB w w') : ExoAt w' K L { S with Q := Q } := by
 obtain ⟨row, hr, _⟩ := h.env.head
 have hup : UpdP (fun k => Ip.XB w k) w w' := ⟨hu.os, hu.tape, hu.output, hu.size, fun k hk hn => hu.block k hk (Or.inr hn)⟩
 have hno : ∀ {k : Nat} {cs : Array Value} {t : TypeId} {fr : Nat × Nat}, w.heap[k]? = some (.cells cs t fr) → t ≠ 176 → t ≠ 173 → ¬ Ip.XB w k := by
  rintro k cs t fr hk h1 h2 ⟨cs', t', fr', e, o⟩
  rw [hk] at e
  simp only [Option.some.injEq, Obj.cells.injEq] at e
  obtain ⟨_, rfl, _⟩ := e
  rcases o with o | o
  ·exact h1 o
  ·exact h2 o
 refine ⟨hu.other h.head (by decide) (by decide), ker_keep h.mem (fun k hkb => ?_), h.env.keep ((hu.other hr (by decide) (by decide)).trans hr.symm) ((hu.other h.env.vec (by decide) (by decide)).trans h.env.vec.symm), hm,
   h.disk.keepP hup (hno h.disk.head (by decide) (by decide)) (fun k hx => ?_) (fun k hb cur fr e => hno e (by decide) (by decide) hb), h.ne, Nat.le_trans h.lowB hu.size⟩
 ·rcases kb_is h.mem hkb with ⟨es, c, e⟩ | ⟨cs, t, e, o⟩
  ·exact hu.block k (lt_of_heap e) (Or.inr (by rintro ⟨cs', t', fr', e', _⟩; rw [e] at e'; cases e'))
  ·exact hu.block k (lt_of_heap e) (Or.inr (hno e (by rcases o with rfl | rfl | rfl | ⟨rfl, _⟩ | rfl <;> decide) (by rcases o with rfl | rfl | rfl | ⟨rfl, _⟩ | rfl <;> decide)))
 ·obtain ⟨cs, t, e, o⟩ := xfoot_is h.disk hx
  exact hno e (by rcases o with rfl | rfl | rfl | ⟨rfl, _⟩ <;> decide) (by rcases o with rfl | rfl | rfl | ⟨rfl, _⟩ <;> decide)
theorem ExoAt.updE (h : ExoAt w K L S) {E : En.ES} {V : List Int} (hm : En.EnvAt w' L.eb L.eg E V) (hu : UpdP (En.Mine L.eb L.eg) w w') : ExoAt w' K L { S with E := E, V := V } := by
 obtain ⟨row, hr, _⟩ := h.env.head
 have hno : ∀ {k : Nat} {cs : Array Value} {t : TypeId} {fr : Nat × Nat}, w.heap[k]? = some (.cells cs t fr) → t ≠ 125 → t ≠ 3 → ¬ En.Mine L.eb L.eg k := by
  rintro k cs t fr hk h1 h2 (e | e)
  ·rw [e] at hk; exact heap_apart hk hr h1 rfl
  ·rw [e] at hk; exact heap_apart hk h.env.vec h2 rfl
 have hk : ∀ {k : Nat} {cs : Array Value} {t : TypeId} {fr : Nat × Nat}, w.heap[k]? = some (.cells cs t fr) → t ≠ 125 → t ≠ 3 → w'.heap[k]? = some (.cells cs t fr) := fun e h1 h2 => (hu.block _ (lt_of_heap e) (hno e h1 h2)).trans e
 refine ⟨hk h.head (by decide) (by decide), ker_keep h.mem (fun k hkb => ?_), hm, h.ipc.kept (fun k cs t fr e o => hk e (by rcases o with rfl | rfl | rfl <;> decide) (by rcases o with rfl | rfl | rfl <;> decide)),
   h.disk.keepP hu (hno h.disk.head (by decide) (by decide)) (fun k hx => ?_) (fun k hb cur fr e => hno e (by decide) (by decide) hb), h.ne, Nat.le_trans h.lowB hu.size⟩
 ·rcases kb_is h.mem hkb with ⟨es, c, e⟩ | ⟨cs, t, e, o⟩
  ·refine hu.block k (lt_of_heap e) ?_
   rintro (q | q)
   ·rw [q, hr] at e; cases e
   ·rw [q, h.env.vec] at e; cases e
  ·exact hu.block k (lt_of_heap e) (hno e (by rcases o with rfl | rfl | rfl | ⟨rfl, _⟩ | rfl <;> decide) (by rcases o with rfl | rfl | rfl | ⟨rfl, _⟩ | rfl <;> decide))
 ·obtain ⟨cs, t, e, o⟩ := xfoot_is h.disk hx
  exact hno e (by rcases o with rfl | rfl | rfl | ⟨rfl, _⟩ <;> decide) (by rcases o with rfl | rfl | rfl | ⟨rfl, _⟩ <;> decide)
end
structure XTch (L : XL) (i : Prop) (w w' : World) : Prop where
 os : w'.os = w.os
 tape : w'.tape = w.tape
 output : w'.output = w.output
 size : w.heap.size ≤ w'.heap.size
 block : ∀ k, k < w.heap.size → ¬ Ex.Foot L.Y k → ¬ Xd.XFoot L.D k → (¬ i ∨ k < L.iB ∨ ¬ Ip.XB w k) → w'.heap[k]? = w.heap[k]?
section
variable {w w' w2 : World} {L : XL} {i j : Prop}
theorem XTch.refl (L : XL) (i : Prop) (w : World) : XTch L i w w := ⟨rfl, rfl, rfl, Nat.le_refl _, fun _ _ _ _ _ => rfl⟩
theorem XTch.trans (h : XTch L i w w') (k : XTch L i w' w2) : XTch L i w w2 :=
 ⟨k.os.trans h.os, k.tape.trans h.tape, k.output.trans h.output, Nat.le_trans h.size k.size, fun b hb h1 h2 h3 => by
   have e := h.block b hb h1 h2 h3
   refine (k.block b (Nat.lt_of_lt_of_le hb h.size) h1 h2 ?_).trans e
   rcases h3 with h3 | h3 | h3
   · exact Or.inl h3
   · exact Or.inr (Or.inl h3)
   · exact Or.inr (Or.inr (fun x => h3 ((Ip.xb_same e).1 x)))⟩
theorem XTch.mono (h : XTch L i w w') (hi : i → j) : XTch L j w w' :=
 ⟨h.os, h.tape, h.output, h.size, fun b hb h1 h2 h3 => h.block b hb h1 h2 (by
   rcases h3 with h3 | h3 | h3
   · exact Or.inl (fun x => h3 (hi x))
   · exact Or.inr (Or.inl h3)
   · exact Or.inr (Or.inr h3))⟩
theorem XTch.of_below (h : Below w.heap.size w w') : XTch L i w w' := ⟨h.os, h.tape, h.output, h.size, fun b hb _ _ _ => h.block b hb⟩
theorem XTch.of_foot (h : UpdP (Ex.Foot L.Y) w w') : XTch L i w w' := ⟨h.os, h.tape, h.output, h.size, fun b hb h1 _ _ => h.block b hb h1⟩
theorem XTch.of_xfoot (h : UpdP (Xd.XFoot L.D) w w') : XTch L i w w' := ⟨h.os, h.tape, h.output, h.size, fun b hb _ h2 _ => h.block b hb h2⟩
theorem XTch.of_tch (h : Ip.Tch L.iB w w') (hi : i) : XTch L i w w' := ⟨h.os, h.tape, h.output, h.size, fun b hb _ _ h3 => h.block b hb (by
  rcases h3 with h3 | h3 | h3
  · exact absurd hi h3
  · exact Or.inl h3
  · exact Or.inr h3)⟩
theorem XTch.below {B : Nat} (h : XTch L i w w') (h1 : ∀ k, Ex.Foot L.Y k → B ≤ k) (h2 : ∀ k, Xd.XFoot L.D k → B ≤ k) (h3 : B ≤ L.iB) (hs : B ≤ w.heap.size) : Below B w w' :=
 ⟨h.os, h.tape, h.output, h.size, fun k hk => h.block k (by omega) (fun e => by have := h1 k e; omega) (fun e => by have := h2 k e; omega) (Or.inr (Or.inl (by omega)))⟩
theorem XTch.other {K : Nat} {S : XS} (h : XTch L i w w') (hx : ExoAt w K L S) {k : Nat} {cs : Array Value} {t : TypeId} {fr : Nat × Nat} (hk : w.heap[k]? = some (.cells cs t fr))
  (ht : t ∉ [236, 250, 242, 272, 294, 176, 173]) : w'.heap[k]? = some (.cells cs t fr) := by
 simp only [List.mem_cons, not_or, List.not_mem_nil, not_false_eq_true, and_true] at ht
 obtain ⟨t1, t2, t3, t4, t5, t6, t7⟩ := ht
 refine (h.block k (lt_of_heap hk) (not_foot hx.mem hk t1 t2) (not_xfoot hx.disk hk t3 t4 t5 t2) (Or.inr (Or.inr ?_))).trans hk
 rintro ⟨cs', t', fr', e, o⟩
 rw [hk] at e
 simp only [Option.some.injEq, Obj.cells.injEq] at e
 obtain ⟨_, rfl, _⟩ := e
 rcases o with o | o
 ·exact t6 o
 ·exact t7 o
end
end Go.Proofs.YtbhpafgoofkkmaaGreatDoor
