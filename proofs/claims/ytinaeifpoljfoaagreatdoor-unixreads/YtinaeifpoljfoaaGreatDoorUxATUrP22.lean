import Derived.Test.YtinaeifpoljfoaaGreatDoorInoMTSto
import Derived.Test.YtinaeifpoljfoaaGreatDoorFdS
import Derived.Test.YtinaeifpoljfoaaGreatDoorPpDTPpE
import Derived.Test.YtinaeifpoljfoaaGreatDoorSgDTSgG
import Derived.Test.YtinaeifpoljfoaaGreatDoorPcUTPcD
import Derived.Test.YtinaeifpoljfoaaGreatDoorFdN
import Derived.LaidEqlPtr
set_option linter.all false
set_option maxRecDepth 100000
set_option maxHeartbeats 16000000
namespace Go.Proofs.YtinaeifpoljfoaaGreatDoor
open Go.RowKit
structure Un where
 F : Fd.FS
 P : Pp.PS
 S : Sg.SS
 T : Pc.St
structure UnOk (U : Un) : Prop where
 inv : Fd.Inv U.F
 fit : Fd.FitS U.F
 sok : Sg.SOk U.S
structure Pl where
 lo : Nat
 c : Nat
 f : Nat
 p : Nat
 s : Nat
 t : Nat
 B : Nat
def unT : List TypeId := [109, 160, 124, 167, 211]
def unB (t : TypeId) : Bool := unT.contains t
theorem st_un {t : TypeId} (h1 : stB t = true) (h2 : unB t = true) : False := by
 have h3 : t ∈ stT := List.contains_iff_mem.1 h1;simp only [stT, List.mem_cons, List.not_mem_nil, or_false] at h3
 rcases h3 with rfl | rfl | rfl | rfl | rfl
 all_goals revert h2; decide
def IsU (w : World) (k : Nat) : Prop := (∃ es cl, w.heap[k]? = some (.map es cl)) ∨ ∃ cs t fr, w.heap[k]? = some (.cells cs t fr) ∧ unB t = true
theorem isU_same {w w' : World} {k : Nat} (h : w'.heap[k]? = w.heap[k]?) : IsU w' k ↔ IsU w k := by unfold IsU; rw [h]
theorem not_isU {w : World} {k : Nat} {cs : Array Value} {t : TypeId} {fr : Nat × Nat} (hk : w.heap[k]? = some (.cells cs t fr)) (ht : unB t = false) : ¬ IsU w k := by
 rintro (⟨es, cl, e⟩ | ⟨cs', t', fr', e, ht'⟩)
 ·rw [hk] at e; cases e
 ·rw [hk] at e
  simp only [Option.some.injEq, Obj.cells.injEq] at e;obtain ⟨_, rfl, _⟩ := e;rw [ht] at ht'
  cases ht'
structure UT (lo : Nat) (w w' : World) : Prop where
 os : w'.os = w.os
 tape : w'.tape = w.tape
 output : w'.output = w.output
 size : w.heap.size ≤ w'.heap.size
 block : ∀ k, k < w.heap.size → (k < lo ∨ ¬ IsU w k) → w'.heap[k]? = w.heap[k]?
section
variable {lo : Nat} {w w' w1 : World}
theorem UT.refl (lo : Nat) (w : World) : UT lo w w := ⟨rfl, rfl, rfl, Nat.le_refl _, fun _ _ _ => rfl⟩
theorem UT.trans {a b c : World} (h : UT lo a b) (k : UT lo b c) : UT lo a c :=
 ⟨k.os.trans h.os, k.tape.trans h.tape, k.output.trans h.output, Nat.le_trans h.size k.size, fun i hi hs => by
   have e := h.block i hi hs;refine (k.block i (Nat.lt_of_lt_of_le hi h.size) ?_).trans e
   rcases hs with hs | hs
   · exact Or.inl hs
   · exact Or.inr (fun x => hs ((isU_same e).1 x))⟩
theorem UT.of_below (h : Below w.heap.size w w') : UT lo w w' := ⟨h.os, h.tape, h.output, h.size, fun k hk _ => h.block k hk⟩
theorem UT.of_upd {g : Nat} (h : Upd g w w') (hl : lo ≤ g) (hg : IsU w g) : UT lo w w' := ⟨h.os, h.tape, h.output, h.size, fun k hk hs => h.block k hk (fun e => by
  subst e
  rcases hs with hs | hs
  · omega
  · exact hs hg)⟩
theorem pb_isU {k : Nat} (h : Pc.PB w k) : IsU w k := by
 rcases h with h | ⟨cs, t, fr, h, ht⟩
 ·exact Or.inl h
 ·refine Or.inr ⟨cs, t, fr, h, ?_⟩
  rcases ht with rfl | rfl <;> rfl
theorem UT.of_tch {B : Nat} (h : Pc.Tch B w w') (hl : lo ≤ B) : UT lo w w' := ⟨h.os, h.tape, h.output, h.size, fun k hk hs => h.block k hk (by
  rcases hs with hs | hs
  · exact Or.inl (by omega)
  · exact Or.inr (fun x => hs (pb_isU x)))⟩
theorem UT.other (h : UT lo w w') {k : Nat} {cs : Array Value} {t : TypeId} {fr : Nat × Nat} (hk : w.heap[k]? = some (.cells cs t fr)) (ht : unB t = false) : w'.heap[k]? = some (.cells cs t fr) := by
 rw [h.block k (lt_of_heap hk) (Or.inr (not_isU hk ht))];exact hk
theorem UT.below {M : Nat} (h : UT lo w w') (hM : M ≤ lo) (hs : M ≤ w.heap.size) : Below M w w' := ⟨h.os, h.tape, h.output, h.size, fun k hk => h.block k (by omega) (Or.inl (by omega))⟩
theorem ne_of_types {a b : Nat} {c1 c2 : Array Value} {t1 t2 : TypeId} {f1 f2 : Nat × Nat} (h1 : w.heap[a]? = some (.cells c1 t1 f1)) (h2 : w.heap[b]? = some (.cells c2 t2 f2)) (ht : t1 ≠ t2) : a ≠ b := by
 rintro rfl;rw [h1] at h2;simp only [Option.some.injEq, Obj.cells.injEq] at h2;exact ht h2.2.1
end
section
variable {w w' : World} {B b : Nat} {mo : Option Nat} {c : Int → Nat} {S : Pc.St}
theorem procs_keep (h : Pc.PrAt w B b S) (hk : ∀ k, Pc.PB w k → w'.heap[k]? = w.heap[k]?) : Pc.PrAt w' B b S := by
 obtain ⟨mo, c, h⟩ := h
 refine ⟨mo, c, (hk _ h.pbb).trans h.head, ?_, fun k p hp => (hk _ (h.pbc hp)).trans (h.pr k p hp), h.inj, h.dom, h.bB, h.mB, h.cB⟩
 rcases h.map with ⟨e, h1⟩ | ⟨m, e, h1⟩
 ·exact Or.inl ⟨e, h1⟩
 ·exact Or.inr ⟨m, e, h1.of_block (hk m (h.pbm m e))⟩
end
structure UnAt (w : World) (L : Pl) (U : Un) : Prop where
 head : w.heap[L.c]? = some (.cells #[ptr L.f, ptr L.p, ptr L.s, ptr L.t] 60)
 fds : Fd.FdAt w L.f U.F
 pipes : Pp.PpAt w L.p U.P
 sigs : Sg.SgAt w L.s U.S
 procs : Pc.PrAt w L.B L.t U.T
 ok : UnOk U
 lf : L.lo ≤ L.f
 lp : L.lo ≤ L.p
 ls : L.lo ≤ L.s
 lB : L.lo ≤ L.B
section
variable {w w' : World} {L : Pl} {U : Un}
theorem UnAt.fU (h : UnAt w L U) : ∃ row, w.heap[L.f]? = some (.cells row 109) := by
 obtain ⟨row, hr, _⟩ := h.fds.head;exact ⟨row, hr⟩
theorem UnAt.pU (h : UnAt w L U) : ∃ row, w.heap[L.p]? = some (.cells row 160) := by
 obtain ⟨row, hr, _⟩ := h.pipes;exact ⟨row, hr⟩
theorem UnAt.sU (h : UnAt w L U) : ∃ row, w.heap[L.s]? = some (.cells row 124) := by
 obtain ⟨row, hr, _⟩ := h.sigs;exact ⟨row, hr⟩
theorem UnAt.keep (h : UnAt w L U) (hu : ∀ k, IsU w k → w'.heap[k]? = w.heap[k]?) (hw : Sg.KeepW w w') (hc : w'.heap[L.c]? = w.heap[L.c]?) : UnAt w' L U := by
 obtain ⟨rf, hf⟩ := h.fU;obtain ⟨rp, hp⟩ := h.pU;obtain ⟨rs, hs⟩ := h.sU;exact ⟨hc.trans h.head, h.fds.keep (hu _ (Or.inr ⟨_, _, _, hf, rfl⟩)), h.pipes.keep (hu _ (Or.inr ⟨_, _, _, hp, rfl⟩)), h.sigs.keep (hu _ (Or.inr ⟨_, _, _, hs, rfl⟩)) hw, procs_keep h.procs (fun k hk => hu k (pb_isU hk)), h.ok, h.lf, h.lp, h.ls, h.lB⟩
theorem UnAt.clt (h : UnAt w L U) : L.c < w.heap.size := lt_of_heap h.head
theorem IsU.lt {k : Nat} (h : IsU w k) : k < w.heap.size := by
 rcases h with ⟨_, _, h⟩ | ⟨_, _, _, h, _⟩
 ·exact lt_of_heap h
 ·exact lt_of_heap h
theorem UnAt.below (h : UnAt w L U) (hb : Below w.heap.size w w') : UnAt w' L U := h.keep (fun k hk => hb.block k hk.lt) (Sg.KeepW.below hb) (hb.block _ h.clt)
theorem UnAt.low (h : UnAt w L U) : L.lo ≤ w.heap.size := by have := h.fds.lt; have := h.lf; omega
theorem UnAt.st {lo : Nat} (h : UnAt w L U) (hu : ST lo w w') : UnAt w' L U := h.keep
 (fun k hk => by
   refine hu.block k hk.lt (Or.inr ?_) id;rintro ⟨cs, t, fr, e, ht⟩
   rcases hk with ⟨_, _, e2⟩ | ⟨_, t2, _, e2, ht2⟩
   · rw [e] at e2; cases e2
   · rw [e] at e2
     simp only [Option.some.injEq, Obj.cells.injEq] at e2;obtain ⟨_, rfl, _⟩ := e2
     exact st_un ht ht2)
 (fun g cs fr hg => hu.same hg (by decide))
 (hu.same h.head (by decide))
theorem UnAt.cell0 (h : UnAt w L U) : w.cell? ⟨L.c, 0, none⟩ = some (ptr L.f) := by rw [cell_of_heap h.head]; rfl
theorem UnAt.cell1 (h : UnAt w L U) : w.cell? ⟨L.c, 1, none⟩ = some (ptr L.p) := by rw [cell_of_heap h.head]; rfl
theorem UnAt.cell3 (h : UnAt w L U) : w.cell? ⟨L.c, 3, none⟩ = some (ptr L.t) := by rw [cell_of_heap h.head]; rfl
theorem UnAt.putF (h : UnAt w L U) {F : Fd.FS} (hu : Upd L.f w w') (hF : Fd.FdAt w' L.f F) (hI : Fd.Inv F) (hT : Fd.FitS F) : UnAt w' L ⟨F, U.P, U.S, U.T⟩ ∧ UT L.lo w w' := by
 obtain ⟨rf, hf⟩ := h.fU;obtain ⟨rp, hp⟩ := h.pU;obtain ⟨rs, hs⟩ := h.sU;refine ⟨⟨(hu.block _ h.clt (ne_of_types h.head hf (by decide))).trans h.head, hF, h.pipes.keep (hu.block _ (lt_of_heap hp) (ne_of_types hp hf (by decide))), h.sigs.keep (hu.block _ (lt_of_heap hs) (ne_of_types hs hf (by decide))) (Sg.KeepW.upd hf (by decide) hu), procs_keep h.procs (fun k hk => hu.block k (pb_isU hk).lt ?_), ⟨hI, hT, h.ok.sok⟩, h.lf, h.lp, h.ls, h.lB⟩, UT.of_upd hu h.lf (Or.inr ⟨_, _, _, hf, rfl⟩)⟩;rintro rfl;exact Pc.not_pb hf (by decide) (by decide) hk
theorem UnAt.putP (h : UnAt w L U) {P : Pp.PS} (hu : Upd L.p w w') (hP : Pp.PpAt w' L.p P) : UnAt w' L ⟨U.F, P, U.S, U.T⟩ ∧ UT L.lo w w' := by
 obtain ⟨rf, hf⟩ := h.fU;obtain ⟨rp, hp⟩ := h.pU;obtain ⟨rs, hs⟩ := h.sU;refine ⟨⟨(hu.block _ h.clt (ne_of_types h.head hp (by decide))).trans h.head, h.fds.keep (hu.block _ (lt_of_heap hf) (ne_of_types hf hp (by decide))), hP, h.sigs.keep (hu.block _ (lt_of_heap hs) (ne_of_types hs hp (by decide))) (Sg.KeepW.upd hp (by decide) hu), procs_keep h.procs (fun k hk => hu.block k (pb_isU hk).lt ?_), ⟨h.ok.inv, h.ok.fit, h.ok.sok⟩, h.lf, h.lp, h.ls, h.lB⟩, UT.of_upd hu h.lp (Or.inr ⟨_, _, _, hp, rfl⟩)⟩;rintro rfl;exact Pc.not_pb hp (by decide) (by decide) hk
theorem UnAt.putT (h : UnAt w L U) {T : Pc.St} (hu : Pc.Tch L.B w w') (hT : Pc.PrAt w' L.B L.t T) : UnAt w' L ⟨U.F, U.P, U.S, T⟩ ∧ UT L.lo w w' := by
 obtain ⟨rf, hf⟩ := h.fU;obtain ⟨rp, hp⟩ := h.pU;obtain ⟨rs, hs⟩ := h.sU;exact ⟨⟨hu.other h.head (by decide) (by decide), h.fds.keep ((hu.other hf (by decide) (by decide)).trans hf.symm), h.pipes.keep ((hu.other hp (by decide) (by decide)).trans hp.symm), h.sigs.keep ((hu.other hs (by decide) (by decide)).trans hs.symm) (fun g cs fr hg => (hu.other hg (by decide) (by decide)).trans hg.symm), hT, ⟨h.ok.inv, h.ok.fit, h.ok.sok⟩, h.lf, h.lp, h.ls, h.lB⟩, UT.of_tch hu h.lB⟩
theorem UT.dk {lo : Nat} {B : Sto} {n m : Nat} {vs : List Int} (hu : UT lo w w') (h : Dk w B n vs m) : Dk w' B n vs m := h.keep (fun k hk => by
  refine hu.block k hk.lt (Or.inr ?_);obtain ⟨cs, t, fr, e, ht⟩ := hk;rintro (⟨_, _, e2⟩ | ⟨_, t2, _, e2, ht2⟩)
  · rw [e] at e2; cases e2
  · rw [e] at e2
    simp only [Option.some.injEq, Obj.cells.injEq] at e2;obtain ⟨_, rfl, _⟩ := e2
    exact st_un ht ht2)
end
structure Cl where
 n : Int
 a : Int
 b : Int
 c : Int
 t : List UInt8
 u : List UInt8
abbrev clR (x : Cl) : Array Value := #[.int .i64 x.n, .int .u64 x.a, .int .u64 x.b, .int .u64 x.c, Pp.tx x.t, Pp.tx x.u]
abbrev tkR (c : Nat) (s : Value) (pid : Int) (x : Cl) (i : List UInt8) : Array Value := #[ptr c, s, .int .i64 pid, .int .i64 x.n, .int .u64 x.a, .int .u64 x.b, .int .u64 x.c, Pp.tx x.t, Pp.tx x.u, Pp.tx i]
structure Ou where
 n : Int
 e : Int
 d : List UInt8
 a : Int
 b : Int
 o : List UInt8
 k : Int
 w : Bool
abbrev reR (o : Ou) : Array Value := #[.int .i64 o.n, .int .i64 o.e, Pp.tx o.d, .int .i64 o.a, .int .i64 o.b]
abbrev ouR (o : Ou) : Array Value := #[.int .i64 o.n, .int .i64 o.e, Pp.tx o.d, .int .i64 o.a, .int .i64 o.b, Pp.tx o.o, .int .i64 o.k, .bool o.w]
def Ou.num (n : Int) : Ou := ⟨n, 0, [], 0, 0, [], 0, false⟩
def Ou.wait : Ou := ⟨0, 0, [], 0, 0, [], 0, true⟩
def Ou.got (d : List UInt8) : Ou := ⟨(d.length : Nat), 0, d, 0, 0, [], 0, false⟩
theorem ouSize : (Tryz.prog.info? 96).map (·.size) = some 8 := by kernel_rfl
theorem number_at (n : Int) (w : World) : Calls Tryz.prog 89 #[.int .i64 n] w fun e w' => e = .returned (.agg (ouR (Ou.num n))) ∧ Below w.heap.size w w' := by
 go_enter Tryz.func89, Tryz.ntmps89
 go_wp2;refine bodyPost_ret (results_cell_row rfl _ _ w.heap.size 96 _ (0, 0) _ rfl (heap_alloc_new w _) Tryz.underlying96 rfl ouSize) rfl ⟨rfl, below_alloc _ _⟩
theorem mustWait_at (w : World) : Calls Tryz.prog 143 #[] w fun e w' => e = .returned (.agg (ouR Ou.wait)) ∧ Below w.heap.size w w' := by
 go_enter Tryz.func143, Tryz.ntmps143
 go_wp2;refine bodyPost_ret (results_cell_row rfl _ _ w.heap.size 96 _ (0, 0) _ rfl (heap_alloc_new w _) Tryz.underlying96 rfl ouSize) rfl ⟨rfl, below_alloc _ _⟩
theorem got_at (d : List UInt8) (w : World) : Calls Tryz.prog 206 #[Pp.tx d] w fun e w' => e = .returned (.agg (ouR (Ou.got d))) ∧ Below w.heap.size w w' := by
 go_enter Tryz.func206, Tryz.ntmps206
 go_wp2;refine bodyPost_ret (results_cell_row rfl _ _ w.heap.size 96 _ (0, 0) _ rfl (heap_alloc_new w _) Tryz.underlying96 rfl ouSize) rfl ⟨rfl, below_alloc _ _⟩
def Ou.zero : Ou := ⟨0, 0, [], 0, 0, [], 0, false⟩
theorem ouR_size (o : Ou) : (ouR o).size = 8 := rfl
theorem ouR_one (o : Ou) : (ouR o).all (·.oneCell') = true := by simp [ouR, Value.oneCell']
def smI (a : Int) : Int := if a ≤ 15 then a else -1
theorem small_at (a : Int) (h : 0 ≤ a) (w : World) : Calls Tryz.prog 163 #[.int .u64 a] w fun e w' => e = .returned (.int .i64 (smI a)) ∧ w' = w := by
 by_cases hc : a ≤ 15
 ·have g0 : decide (15 < a) = false := decide_eq_false (by omega)
  have HS : Hid (smI a = a) := if_pos hc
  have hw : IntKind.i64.wrap a = a := by simp [IntKind.wrap, IntKind.bits, IntKind.signed]; omega
  have hn : ¬ 15 < a := by omega
  clear hc h
  go_enter Tryz.func163, Tryz.ntmps163
  go_wp2;go_ret;exact ⟨by rw [HS.out]; first | rfl | (rw [hw]), rfl⟩
 ·have g0 : decide (15 < a) = true := decide_eq_true (by omega)
  have HS : Hid (smI a = -1) := if_neg hc
  have hn : 15 < a := by omega
  clear hc h
  go_enter Tryz.func163, Tryz.ntmps163
  go_wp2;go_ret;exact ⟨by rw [HS.out]; rfl, rfl⟩
section
variable {w : World} {L : Pl} {U : Un}
theorem core_eq (b : Nat) (W : World) : (binOp .eql 24 (ptr b) (.pointer none)).run Tryz.prog W = .ok (.bool false) W := by kernel_rfl
theorem core_ne (b : Nat) (W : World) : (binOp .neq 24 (ptr b) (.pointer none)).run Tryz.prog W = .ok (.bool true) W := by kernel_rfl
theorem ulive_at (h : UnAt w L U) (k : Int) : Calls Tryz.prog 11 #[ptr L.c, .int .i64 k] w fun e w' => e = .returned (.bool (Pc.liv U.T k)) ∧ w' = w := by
 have hL := Pc.live_at L.B L.t U.T k w h.procs;have c3 := h.cell3;have hne := core_ne L.c;clear h;generalize L.c = cc at *;generalize L.t = tt at *
 go_enter Tryz.func11, Tryz.ntmps11
 go_wp2_with fail
 refine hL.mono ?_;rintro e w1 ⟨rfl, hw⟩;rw [hw];clear hw w1 hL;go_wp2;go_ret;exact ⟨rfl, rfl⟩
theorem guard_at (t : TypeId) (x : Value) (hn : ∀ W, (binOp BinOp.eql 94 (.iface t x) .nilIface).run Tryz.prog W = .ok (.bool false) W) (w : World) : Calls Tryz.prog 35 #[.iface t x] w fun e w' => e = .returned (.iface 192 (.agg #[.iface t x])) ∧ w' = w := by
 go_enter Tryz.func35, Tryz.ntmps35
 go_wp2;go_ret;exact ⟨rfl, rfl⟩
end
def Un0 : Un := ⟨Fd.FS.zero, Pp.PS.none, Sg.SS.first, Pc.St0⟩
theorem Un0.ok : UnOk Un0 := ⟨Fd.Inv.zero, Fd.FitS.zero, Sg.ok_first⟩
theorem unew_at (w : World) : Calls Tryz.prog 27 #[] w fun e w' => ∃ L : Pl, e = .returned (ptr L.c) ∧ L.lo = w.heap.size ∧ UnAt w' L Un0 ∧ Below w.heap.size w w' := by
 have h1 := Fd.new_at w
 go_enter Tryz.func27, Tryz.ntmps27
 go_wp2_with fail
 refine h1.mono ?_;rintro e w1 ⟨rfl, hf1, hb1, -⟩;have h2 := Pp.new_at w1;have HF := hid hf1;have HB1 := hid hb1;clear h1 hf1 hb1
 go_wp2_with fail
 refine h2.mono ?_;rintro e w2 ⟨rfl, hp2, hb2, -⟩;have h3 := Sg.new_at w2;have HP := hid hp2;have HB2 := hid hb2;clear h2 hp2 hb2
 go_wp2_with fail
 refine h3.mono ?_;rintro e w3 ⟨rfl, hs3, hb3⟩;have h4 := Pc.new_at w3;have HS := hid hs3;have HB3 := hid hb3;clear h3 hs3 hb3
 go_wp2_with fail
 refine h4.mono ?_;rintro e w4 ⟨rfl, ht4, hb4⟩;have HT := hid ht4;have HB4 := hid hb4;clear h4 ht4 hb4;go_wp2;go_ret;have s1 := HB1.out.size;have s2 := HB2.out.size;have s3 := HB3.out.size;have s4 := HB4.out.size;have B5 := below_alloc w4 (.cells #[ptr w.heap.size, ptr w1.heap.size, ptr w2.heap.size, ptr w3.heap.size] 60);have b4 : Below w4.heap.size w4 _ := B5;have b3 := HB4.out.trans (B5.mono s4);have b2 := HB3.out.trans (b3.mono s3);have b1 := HB2.out.trans (b2.mono s2);have b0 := HB1.out.trans (b1.mono s1);exact ⟨⟨w.heap.size, w4.heap.size, w.heap.size, w1.heap.size, w2.heap.size, w3.heap.size, w3.heap.size⟩, rfl, rfl, ⟨heap_alloc_new _ _, HF.out.below b1, HP.out.below b2, HS.out.below b3, HT.out.below B5, Un0.ok, Nat.le_refl _, s1, by show w.heap.size ≤ w2.heap.size; omega, by show w.heap.size ≤ w3.heap.size; omega⟩, b0⟩
theorem uindex_at {w : World} {a : Option Addr} {os : List Int} {cap : Nat} (h : Ow.IRow w a os) (hl : os.length ≤ 9223372036854775807) (x : Int) :
  Calls Tryz.prog 311 #[.slice a os.length cap, .int .i64 x] w fun e w' => (∃ r : Int, e = .returned (.int .i64 r) ∧ (0 ≤ r ↔ x ∈ os)) ∧ w' = w := by
 obtain ⟨N, hN⟩ : ∃ N, N = os.length := ⟨_, rfl⟩;have HN := hid hN
 have HC : Hid (∀ k, k < N → ∃ g off y, a = some ⟨g, off, none⟩ ∧ os[k]? = some y ∧ w.cell? ⟨g, off + k, none⟩ = some (.int .i64 y)) := fun k hk => by
  have hk' : k < os.length := by omega
  obtain ⟨g, off, e1, e2⟩ := h k os[k] (List.getElem?_eq_getElem hk');exact ⟨g, off, os[k], e1, List.getElem?_eq_getElem hk', e2⟩
 rw [← hN] at hl ⊢;clear h hN
 go_enter Tryz.func311, Tryz.ntmps311
 go_wp2
 go_loopw [8] (fun s wr => ∃ (k : Nat), k ≤ N ∧ s = .int .i64 k ∧ wr = w ∧ Hid (∀ j y, j < k → os[j]? = some y → x ≠ y)) (fun s _ => N - (intOf s).toNat)
 case atStart => exact ⟨0, by omega, rfl, rfl, fun j y hj => by omega⟩
 case round =>
  obtain ⟨k, hk, rfl, rfl, HA⟩ := hrel
  by_cases hlt : k < N
  ·have hki : (k : Int) < (N : Int) := by omega
   obtain ⟨g, off, y, rfl, hy, hc⟩ := HC.out k hlt;have HY := hid hy;clear hy
   by_cases hq : x = y
   ·have hb : (x == y) = true := by simp [hq]
    have HQ := hid hq;clear hq HA;go_wp2;go_ret
    refine ⟨⟨_, rfl, ⟨fun _ => ?_, fun _ => by omega⟩⟩, by trivial⟩
    rw [HQ.out];exact List.mem_of_getElem? HY.out
   ·have hb : (x == y) = false := by simpa using hq
    have HQ := hid hq;clear hq;go_wp2;go_roundw
    case rel =>
     refine ⟨k + 1, by omega, by go_num, by trivial, fun j z hj hz => ?_⟩
     by_cases e : j = k
     ·subst e
      have := HY.out;rw [this] at hz
      cases hz
      exact HQ.out
     ·exact HA.out j z (by omega) hz
    case measure => simp [intOf]; omega
  ·obtain rfl : k = N := by omega
   go_wp2;go_ret;refine ⟨⟨_, rfl, ⟨fun h => by omega, fun hm => ?_⟩⟩, by trivial⟩;obtain ⟨j, hj, e⟩ := List.getElem_of_mem hm;exact absurd e.symm (HA.out j _ (by have := HN.out; omega) (List.getElem?_eq_getElem hj))
theorem ucontains_at {w : World} {a : Option Addr} {os : List Int} {cap : Nat} (h : Ow.IRow w a os) (hl : os.length ≤ 9223372036854775807) (x : Int) :
  Calls Tryz.prog 262 #[.slice a os.length cap, .int .i64 x] w fun e w' => e = .returned (.bool (decide (x ∈ os))) ∧ w' = w := by
 have hI := uindex_at (cap := cap) h hl x;clear h hl;generalize os.length = N at *
 go_enter Tryz.func262, Tryz.ntmps262
 go_wp2_with fail
 refine hI.mono ?_;rintro e w1 ⟨⟨r, rfl, hr⟩, hw⟩;rw [hw];clear hw hI;have HR : Hid (decide (0 ≤ r) = decide (x ∈ os)) := decide_eq_decide.2 hr;clear hr;go_wp2;go_ret;exact ⟨by rw [← HR.out]; rfl, rfl⟩
theorem mem_cTo (d : Array Int) : ∀ m, ∀ a, a ∈ Lib.compactUpTo d m ↔ ∃ j, j < m ∧ d[j]! = a
 | 0, a => by simp [Lib.compactUpTo]
 | m + 1, a => by
  have h2 := mem_cTo d m;rw [Lib.compactUpTo_succ]
  by_cases hk : Lib.keeps d m = true
  ·rw [if_pos hk, List.mem_append, h2, List.mem_singleton]
   constructor
   ·rintro (⟨j, hj, e⟩ | e)
    ·exact ⟨j, by omega, e⟩
    ·exact ⟨m, by omega, e.symm⟩
   ·rintro ⟨j, hj, e⟩
    rcases Nat.lt_or_ge j m with q | q
    ·exact Or.inl ⟨j, q, e⟩
    ·have : j = m := by omega
     rw [this] at e;exact Or.inr e.symm
  ·rw [if_neg hk, List.append_nil, h2]
   simp only [Lib.keeps, decide_eq_true_eq, not_or, Classical.not_not] at hk;constructor
   ·rintro ⟨j, hj, e⟩
    exact ⟨j, by omega, e⟩
   ·rintro ⟨j, hj, e⟩
    rcases Nat.lt_or_ge j m with q | q
    ·exact ⟨j, q, e⟩
    ·have : j = m := by omega
     rw [this, hk.2] at e;exact ⟨m - 1, by omega, e⟩
theorem mem_compactI (z : List Int) (a : Int) : a ∈ Lib.compact z ↔ a ∈ z := by
 unfold Lib.compact;rw [mem_cTo, List.mem_iff_getElem];constructor
 ·rintro ⟨j, hj, e⟩
  rw [getElem!_pos z.toArray j (by simpa using hj)] at e;exact ⟨j, hj, by simpa using e⟩
 ·rintro ⟨j, hj, e⟩
  refine ⟨j, hj, ?_⟩;rw [getElem!_pos z.toArray j (by simpa using hj)]
  simpa using e
def opB (S : Fd.FS) (kind id : Int) : Bool := (List.range 32).any fun p => decide (0 < (S.f p).refs) && ((S.f p).kind == kind && (S.f p).id == id)
theorem mem_idsTo (S : Fd.FS) (kind x : Int) : ∀ n, x ∈ Fd.idsTo S kind n ↔ ∃ p, p < n ∧ 0 < (S.f p).refs ∧ (S.f p).kind = kind ∧ (S.f p).id = x
 | 0 => by
  unfold Fd.idsTo;constructor
  ·intro h; cases h
  ·rintro ⟨p, h, _⟩; omega
 | n + 1 => by
  have ih := mem_idsTo S kind x n;unfold Fd.idsTo
  by_cases hc : 0 < (S.f n).refs ∧ (S.f n).kind = kind
  ·rw [if_pos hc, List.mem_append, ih, List.mem_singleton]
   constructor
   ·rintro (⟨p, h1, h2⟩ | rfl)
    ·exact ⟨p, by omega, h2⟩
    ·exact ⟨n, by omega, hc.1, hc.2, rfl⟩
   ·rintro ⟨p, h1, h2, h3, h4⟩
    by_cases e : p = n
    ·subst e; exact Or.inr h4.symm
    ·exact Or.inl ⟨p, by omega, h2, h3, h4⟩
  ·rw [if_neg hc, ih]
   constructor
   ·rintro ⟨p, h1, h2⟩
    exact ⟨p, by omega, h2⟩
   ·rintro ⟨p, h1, h2, h3, h4⟩
    by_cases e : p = n
    ·subst e; exact absurd ⟨h2, h3⟩ hc
    ·exact ⟨p, by omega, h2, h3, h4⟩
theorem mem_ids (S : Fd.FS) (kind x : Int) : decide (x ∈ Fd.idsA S kind) = opB S kind x := by
 have h : x ∈ Fd.idsA S kind ↔ x ∈ Fd.idsTo S kind 32 := by
  unfold Fd.idsA;rw [mem_compactI, List.mem_mergeSort]
 rw [Bool.eq_iff_iff, decide_eq_true_iff, h, mem_idsTo];unfold opB;rw [List.any_eq_true];constructor
 ·rintro ⟨p, h1, h2, h3, h4⟩
  exact ⟨p, List.mem_range.2 h1, by simp [h2, h3, h4]⟩
 ·rintro ⟨p, h1, h2⟩
  simp only [Bool.and_eq_true, decide_eq_true_eq, beq_iff_eq] at h2;exact ⟨p, List.mem_range.1 h1, h2.1, h2.2.1, h2.2.2⟩
theorem ids_len (S : Fd.FS) (kind : Int) : (Fd.idsA S kind).length ≤ 9223372036854775807 := by
 have h1 : (Fd.idsA S kind).length ≤ ((Fd.idsTo S kind 32).mergeSort fun x y => decide (x ≤ y)).length := Fd.compact_len _;rw [List.length_mergeSort] at h1;have := Fd.idsTo_len S kind 32;omega
section
variable {w : World} {L : Pl} {U : Un}
theorem isOpen_at (h : UnAt w L U) (kind id : Int) : Calls Tryz.prog 209 #[ptr L.c, .int .i64 kind, .int .i64 id] w fun e w' => e = .returned (.bool (opB U.F kind id)) ∧ Below w.heap.size w w' := by
 have hL := Fd.ids_at L.f U.F kind w h.fds;have c0 := h.cell0;have HM : Hid (decide (id ∈ Fd.idsA U.F kind) = opB U.F kind id) := mem_ids U.F kind id;have HLn : Hid ((Fd.idsA U.F kind).length ≤ 9223372036854775807) := ids_len U.F kind;clear h;generalize L.c = cc at *;generalize L.f = ff at *
 go_enter Tryz.func209, Tryz.ntmps209
 go_wp2_with fail
 refine hL.mono ?_;rintro e w1 ⟨a, cap, rfl, hr, hb⟩;have hC := ucontains_at (cap := cap) hr HLn.out id;have HB := hid hb;rw [HM.out] at hC;clear hL hr hb HM HLn
 go_wp2_with fail
 refine hC.mono ?_;rintro e w2 ⟨rfl, hw⟩;rw [hw];clear hw hC w2;go_wp2;go_ret;exact ⟨rfl, HB.out⟩
def opN (S : Fd.FS) : Nat := (Fd.ord S.t).length
def coB (S : Fd.FS) (pid n : Int) : Bool := decide (n ≤ Fd.leftA S pid) && decide (n ≤ 32 - (opN S : Int))
theorem opN_le (S : Fd.FS) : opN S ≤ 48 := Fd.ordTo_len S.t 48
theorem canOpen_at (h : UnAt w L U) (pid n : Int) (hn : 0 ≤ n) (hn2 : n ≤ 100) : Calls Tryz.prog 155 #[ptr L.c, .int .i64 pid, .int .i64 n] w fun e w' => e = .returned (.bool (coB U.F pid n)) ∧ Below w.heap.size w w' := by
 have hE := Fd.encode_at L.f U.F w h.fds h.ok.inv h.ok.fit;have c0 := h.cell0;have HA := hid h;have hoN := opN_le U.F;have hen : ∃ r, Fd.encW U.F = ((opN U.F : Nat) : Int) :: r := ⟨_, rfl⟩;obtain ⟨er, hen⟩ := hen;have HEn := hid hen;clear h;generalize hcc : L.c = cc at *;generalize hff : L.f = ff at *;have HF := hid hff;have HCc := hid hcc;clear hff hcc;obtain ⟨N, hN⟩ : ∃ N, N = opN U.F := ⟨_, rfl⟩;have HN := hid hN;rw [← hN] at hen hoN HEn;clear hN
 go_enter Tryz.func155, Tryz.ntmps155
 go_wp2_with fail
 refine hE.mono ?_;rintro e w1 ⟨v, rfl, hv, hb⟩;rw [hen] at hv
 have hgo : ∃ g cap m, v = .slice (some ⟨g, 0, none⟩) (m + 1) cap ∧ w1.cell? ⟨g, 0, none⟩ = some (.int .u64 (N : Int)) := by
  rcases hv.2 with ⟨_, e2⟩ | ⟨g, cap, cur, rfl, _, hh, _, _, _, ht⟩
  ·simp at e2
  ·refine ⟨g, cap, er.length, rfl, ?_⟩
   rw [cell_of_heap hh];have hq : (Ow.uvs ((N : Int) :: er))[0]? = some (.int .u64 (N : Int)) := rfl;rw [← ht, List.getElem?_take_of_lt (by simp)] at hq
   simpa using hq
 obtain ⟨g, cap, m, rfl, hc⟩ := hgo;have HB := hid hb;have c0' : w1.cell? ⟨cc, 0, none⟩ = some (ptr ff) := (hb.cell (cell_lt c0)).trans c0;have hLe := Fd.leftA_at ff U.F pid w1 (by rw [← HF.out]; exact (HA.out.below hb).fds)
 have hwr : IntKind.i64.wrap (N : Int) = (N : Int) := by simp [IntKind.wrap, IntKind.bits, IntKind.signed]; omega
 have hm0 : ((0 : Nat) : Int) < ((m + 1 : Nat) : Int) := by omega
 clear hE hv hb hen HEn c0
 go_wp2_with fail
 refine hLe.mono ?_;rintro e w2 ⟨rfl, hw⟩;rw [hw];clear hw hLe w2
 have HO : Hid (coB U.F pid n = (decide (n ≤ Fd.leftA U.F pid) && decide (n ≤ 32 - (N : Int)))) := by show _ = _; rw [HN.out]; rfl
 clear HN;generalize Fd.leftA U.F pid = lf at *
 have hsub : IntKind.i64.wrap (32 - (N : Int)) = 32 - (N : Int) := by simp [IntKind.wrap, IntKind.bits, IntKind.signed]; omega
 by_cases h1 : n ≤ lf
 ·have g1 : decide (n ≤ lf) = true := decide_eq_true h1
  by_cases h2 : n ≤ 32 - (N : Int)
  ·have g2 : decide (n ≤ 32 - (N : Int)) = true := decide_eq_true h2
   have HQ : Hid (coB U.F pid n = true) := by show _ = _; rw [HO.out, g1, g2]; rfl
   clear HO;go_wp2;go_ret;exact ⟨by rw [HQ.out]; rfl, HB.out⟩
  ·have g2 : decide (n ≤ 32 - (N : Int)) = false := decide_eq_false h2
   have HQ : Hid (coB U.F pid n = false) := by show _ = _; rw [HO.out, g1, g2]; rfl
   clear HO;go_wp2;go_ret;exact ⟨by rw [HQ.out]; rfl, HB.out⟩
 ·have g1 : decide (n ≤ lf) = false := decide_eq_false h1
  have HQ : Hid (coB U.F pid n = false) := by show _ = _; rw [HO.out, g1]; rfl
  clear HO;go_wp2;go_ret;exact ⟨by rw [HQ.out]; rfl, HB.out⟩
end
theorem tkSize : (Tryz.prog.info? 99).map (·.size) = some 10 := by kernel_rfl
theorem descriptor_at (c : Nat) (s : Value) (pid : Int) (x : Cl) (i : List UInt8) (ha : 0 ≤ x.a) (w : World) :
  Calls Tryz.prog 147 #[.agg (tkR c s pid x i)] w fun e w' => e = .returned (.int .i64 (smI x.a)) ∧ Below w.heap.size w w' := by
 have hS := fun W => small_at x.a ha W
 obtain ⟨W, hW⟩ : ∃ W, W = w.alloc (.cells (tkR c s pid x i) 99) := ⟨_, rfl⟩
 have HBW : Hid (Below w.heap.size w W) := by rw [hW]; exact below_alloc _ _
 have HW : Hid _ := hW;clear hW ha
 go_enter Tryz.func147, Tryz.ntmps147
 go_wp2_with fail
 rw [← HW.out];refine (hS _).mono ?_;rintro e w1 ⟨rfl, hw⟩;rw [hw];clear hw w1 hS HW;go_wp2;go_ret;exact ⟨rfl, HBW.out⟩
abbrev conV : Value := .iface 262 (.agg #[])
abbrev reaV (i : Int) : Value := .iface 267 (.agg #[.int .i64 i])
abbrev wriV (i : Int) : Value := .iface 270 (.agg #[.int .i64 i])
theorem whatIs_con (i o r : Int) (a : Bool) (w : World) : Calls Tryz.prog 149 #[.agg (Fd.Fl.row ⟨1, i, o, a, r⟩)] w fun e w' => e = .returned conV ∧ Below w.heap.size w w' := by
 go_enter Tryz.func149, Tryz.ntmps149
 go_wp2;go_ret;exact ⟨rfl, below_alloc _ _⟩
theorem whatIs_rea (i o r : Int) (a : Bool) (w : World) : Calls Tryz.prog 149 #[.agg (Fd.Fl.row ⟨3, i, o, a, r⟩)] w fun e w' => e = .returned (reaV i) ∧ Below w.heap.size w w' := by
 go_enter Tryz.func149, Tryz.ntmps149
 go_wp2;go_ret;exact ⟨rfl, below_alloc _ _⟩
theorem whatIs_wri (i o r : Int) (a : Bool) (w : World) : Calls Tryz.prog 149 #[.agg (Fd.Fl.row ⟨4, i, o, a, r⟩)] w fun e w' => e = .returned (wriV i) ∧ Below w.heap.size w w' := by
 go_enter Tryz.func149, Tryz.ntmps149
 go_wp2;go_ret;exact ⟨rfl, below_alloc _ _⟩
section
variable {w w' : World} {L : Pl} {U : Un}
theorem UnAt.row {r : Nat} {Z R : Array Value} {t : TypeId} {fr : Nat × Nat} (h : UnAt w L U) (hr : w.heap[r]? = some (.cells Z t fr)) (ht : unB t = false) (h1 : t ≠ 45) (h2 : t ≠ 60) : UnAt (w.setRow r R) L U := by
 have hu := Upd.setRow r w R;refine h.keep (fun k hk => hu.block k hk.lt ?_) (fun g cs f hg => hu.block g (lt_of_heap hg) ?_) (hu.block _ h.clt ?_)
 ·rintro rfl
  exact not_isU hr ht hk
 ·rintro rfl
  rw [hr] at hg;simp only [Option.some.injEq, Obj.cells.injEq] at hg;exact h1 hg.2.1
 ·exact ne_of_types h.head hr (fun e => h2 e.symm)
theorem UT.far {lo r : Nat} {R : Array Value} (h : UT lo w w') (hr : w.heap.size ≤ r) : UT lo w (w'.setRow r R) :=
 ⟨h.os, h.tape, h.output, by have := h.size; simpa using this, fun k hk hs => (setRow_other _ _ _ _ (by omega)).trans (h.block k hk hs)⟩
def Left (L : Pl) (o : Ou) (U' : Un) (w : World) : Ending → World → Prop := fun e w' => e = .returned (.agg (ouR o)) ∧ UnAt w' L U' ∧ UT L.lo w w'
end
theorem step_store_row {P : Program} {ops : Array Oper} {o : Oper} {a : Act} {w : World} {K : Act → World → Prop} {Q : Exit → Act → World → Prop} {E : Prop} (hgd : o.guard = none) (ty : TypeId) (x y : Operand) (ho : o.op = .store ty x y)
  (g : Nat) (cells : Array Value) (hx : a.eval x = .pointer (some ⟨g, 0, none⟩)) (hy : a.eval y = .agg cells) (t : TypeId) (old : Array Value) (hg : w.heap[g]? = some (.cells old t (0, 0))) (hi : (P.info? ty).map (·.size) = some cells.size)
  (hold : old.size = cells.size) (h1 : cells.all (·.oneCell') = true) (h : K (a.put o.dst undef) (w.setRow g cells)) :
  if Region.wanted o (yielded ops a.tmps) = true then Oper.wp P o a w K Q else E := by
 have hw : Region.wanted o (yielded ops a.tmps) = true := by simp [Region.wanted, hgd]
 rw [if_pos hw];exact wp_store_row ty x y ho g cells hx hy t old hg hi hold h1 h
theorem step_alloc {P : Program} {ops : Array Oper} {o : Oper} {a : Act} {w : World} {K : Act → World → Prop} {Q : Exit → Act → World → Prop} {E : Prop} (hgd : o.guard = none) (ty : TypeId) (ho : o.op = .alloc ty) (z : Array Value)
  (hz : ∀ W : World, (Instr.alloc ty true (.tuple #[])).run P W = .ok (.pointer (some ⟨W.heap.size, 0, none⟩)) (W.alloc (.cells z ty))) (h : K (a.put o.dst (.pointer (some ⟨w.heap.size, 0, none⟩))) (w.alloc (.cells z ty))) :
  if Region.wanted o (yielded ops a.tmps) = true then Oper.wp P o a w K Q else E := by
 have hw : Region.wanted o (yielded ops a.tmps) = true := by simp [Region.wanted, hgd]
 rw [if_pos hw];unfold Oper.wp execOp;simp only [ho, Sem.run_bind, hz, Result.andThen_ok, Sem.run_pure];exact h
theorem yieldsIf_build {P : Program} {ops : Array Oper} {S : World → Prop} {op : Oper} {a : Act} (hw : Region.wanted op (yielded ops a.tmps) = true) (t : TypeId) (fs : List (Nat × Operand)) (ho : op.op = .build t fs.toArray) (vs : List (Nat × Value)) (hv : (fs.map fun p => (p.1, a.eval p.2)) = vs)
  (r : Value) (hr : ∀ W, (Instr.build t vs.toArray).run P W = .ok r W) : YieldsIf P ops S op r a :=
 .inl ⟨hw, fun w _ => by
   unfold execOp
   simp only [ho, List.map_toArray, Sem.run_bind, hv, hr, Result.andThen_ok, Sem.run_pure]⟩
theorem file_alloc (W : World) : (Instr.alloc 102 true (.tuple #[])).run Tryz.prog W = .ok (.pointer (some ⟨W.heap.size, 0, none⟩)) (W.alloc (.cells Fd.Fl.no.row 102)) := by kernel_rfl
theorem out_alloc (W : World) : (Instr.alloc 96 true (.tuple #[])).run Tryz.prog W = .ok (.pointer (some ⟨W.heap.size, 0, none⟩)) (W.alloc (.cells (ouR Ou.zero) 96)) := by kernel_rfl
theorem flSize : (Tryz.prog.info? 102).map (·.size) = some 5 := by kernel_rfl
theorem ta_con_rea (i : Int) (W : World) : (Instr.typeAssert (.iface 267 (.agg #[.int .i64 i])) 20 262 true).run Tryz.prog W = .ok (.tuple #[.agg #[], .bool false]) W := by kernel_rfl
theorem ta_sto_rea (i : Int) (W : World) : (Instr.typeAssert (.iface 267 (.agg #[.int .i64 i])) 20 264 true).run Tryz.prog W = .ok (.tuple #[.agg #[.int .i64 0, .int .i64 0, .bool false], .bool false]) W := by kernel_rfl
theorem ta_rea_rea (i : Int) (W : World) : (Instr.typeAssert (.iface 267 (.agg #[.int .i64 i])) 20 267 true).run Tryz.prog W = .ok (.tuple #[.agg #[.int .i64 i], .bool true]) W := by kernel_rfl
theorem ta_con_con (W : World) : (Instr.typeAssert (.iface 262 (.agg #[])) 20 262 true).run Tryz.prog W = .ok (.tuple #[.agg #[], .bool true]) W := by kernel_rfl
theorem ta_con_wri (i : Int) (W : World) : (Instr.typeAssert (.iface 270 (.agg #[.int .i64 i])) 20 262 true).run Tryz.prog W = .ok (.tuple #[.agg #[], .bool false]) W := by kernel_rfl
theorem ta_sto_wri (i : Int) (W : World) : (Instr.typeAssert (.iface 270 (.agg #[.int .i64 i])) 20 264 true).run Tryz.prog W = .ok (.tuple #[.agg #[.int .i64 0, .int .i64 0, .bool false], .bool false]) W := by kernel_rfl
theorem ta_wri_wri (i : Int) (W : World) : (Instr.typeAssert (.iface 270 (.agg #[.int .i64 i])) 20 270 true).run Tryz.prog W = .ok (.tuple #[.agg #[.int .i64 i], .bool true]) W := by kernel_rfl
theorem below_alloc0 (w : World) (o : Obj) : Below w.heap.size w (w.alloc o) := (Below.refl _ _).alloc (Nat.le_refl _) _
theorem cellSet_heap {w : World} {g k : Nat} {cs : Array Value} {t : TypeId} {v : Value} (h : w.heap[g]? = some (.cells cs t)) : (w.setCell ⟨g, k, none⟩ v).heap[g]? = some (.cells (cs.setIfInBounds k v) t) := by
 rw [setCell_eq_setRow w g _ _ _ _ _ h, setRow_heap w g _ _ _ _ h]
theorem arSize : (Tryz.prog.info? 52).map (·.size) = some 4 := by kernel_rfl
def ptsK : Nat → List Int → Option (List (List Int) × List Int)
 | 0, l => some ([], l)
 | _ + 1, [] => none
 | k + 1, x :: l => if (l.length : Int) < x then none else (ptsK k (l.drop x.toNat)).map (fun p => (l.take x.toNat :: p.1, p.2))
def pts (D : List Int) : Option (List (List Int)) := (ptsK 4 D).bind fun p => if p.2 = [] then some p.1 else none
def Prt (w : World) (v : Value) (l : List Int) : Prop := ∃ a n c, v = .slice a n c ∧ n = l.length ∧ n ≤ c ∧ Ow.Rd w a l
structure PrS (w : World) (vs : List Value) (ps : List (List Int)) (k : Nat) : Prop where
 vlen : vs.length = 4
 plen : ps.length = k
 part : ∀ (j : Nat) (l : List Int), ps[j]? = some l → ∃ v, vs[j]? = some v ∧ Prt w v l
theorem PrS.step {w : World} {vs : List Value} {ps : List (List Int)} {k : Nat} (h : PrS w vs ps k) (hk : k < 4) {v : Value} {l : List Int} (hv : Prt w v l) : PrS w (vs.set k v) (ps ++ [l]) (k + 1) := by
 refine ⟨by rw [List.length_set]; exact h.vlen, by rw [List.length_append, h.plen]; rfl, fun j m hj => ?_⟩
 rcases Nat.lt_trichotomy j k with q | q | q
 ·rw [List.getElem?_append_left (by rw [h.plen]; exact q)] at hj
  obtain ⟨u, hu, hp⟩ := h.part j m hj;exact ⟨u, by rw [List.getElem?_set_ne (by omega)]; exact hu, hp⟩
 ·subst q
  rw [List.getElem?_append_right (by rw [h.plen]; omega), h.plen, Nat.sub_self] at hj
  obtain rfl : l = m := by simpa using hj
  exact ⟨v, by rw [List.getElem?_set_self (by rw [h.vlen]; exact hk)], hv⟩
 ·rw [List.getElem?_append_right (by rw [h.plen]; omega), h.plen] at hj
  have := (List.getElem?_eq_some_iff.1 hj).1;simp at this;omega
theorem PrS.start {w : World} : PrS w [.slice none 0 0, .slice none 0 0, .slice none 0 0, .slice none 0 0] [] 0 := ⟨rfl, rfl, fun j l h => by simp at h⟩
def PrO (D Dk : List Int) (ps : List (List Int)) (k : Nat) : Prop := ptsK 4 D = (ptsK (4 - k) Dk).map (fun p => (ps ++ p.1, p.2))
theorem PrO.start (D : List Int) : PrO D D [] 0 := by
 unfold PrO
 cases ptsK 4 D <;> simp
theorem PrO.step {D Dk : List Int} {ps : List (List Int)} {k : Nat} {x : Int} {l : List Int} (h : PrO D Dk ps k) (hk : k < 4) (hD : Dk = x :: l) (hx : x ≤ (l.length : Int)) : PrO D (l.drop x.toNat) (ps ++ [l.take x.toNat]) (k + 1) := by
 unfold PrO at h ⊢;rw [h, hD, show 4 - k = (4 - (k + 1)) + 1 by omega]
 show Option.map _ (if (l.length : Int) < x then none else _) = _
 rw [if_neg (by omega)]
 cases ptsK (4 - (k + 1)) (l.drop x.toNat) <;> simp
theorem PrO.none {D Dk : List Int} {ps : List (List Int)} {k : Nat} (h : PrO D Dk ps k) (hk : k < 4) (hD : Dk = [] ∨ ∃ x l, Dk = x :: l ∧ (l.length : Int) < x) : pts D = none := by
 unfold PrO at h;unfold pts;rw [h, show 4 - k = (4 - (k + 1)) + 1 by omega]
 rcases hD with e | ⟨x, l, e, hx⟩
 ·rw [e]
  rfl
 ·rw [e]
  show Option.bind (Option.map _ (if (l.length : Int) < x then Option.none else _)) _ = _
  rw [if_pos hx]
  rfl
theorem PrO.done {D Dk : List Int} {ps : List (List Int)} (h : PrO D Dk ps 4) : pts D = if Dk = [] then some ps else Option.none := by
 unfold PrO at h;unfold pts;rw [h]
 show Option.bind (Option.map _ (some ([], Dk))) _ = _
 simp
theorem parts_at (a : Option Addr) (n cap : Nat) (D : List Int) (w : World) (hr : Ow.Rd w a D) (hn : n = D.length) (hcap : n ≤ cap) (hu : Fd.U64 D) (h3 : n ≤ 1000000) :
  Calls Tryz.prog 14 #[.slice a n cap] w fun e w' => ∃ (a0 a1 a2 a3 : Option Addr) (m0 m1 m2 m3 d0 d1 d2 d3 : Nat) (b : Bool), e = .returned (.tuple #[.agg #[.slice a0 m0 d0, .slice a1 m1 d1, .slice a2 m2 d2, .slice a3 m3 d3], .bool b]) ∧ Below w.heap.size w w' ∧ (b = false → pts D = none) ∧ (b = true → ∃ ps, pts D = some ps ∧ PrS w [.slice a0 m0 d0, .slice a1 m1 d1, .slice a2 m2 d2, .slice a3 m3 d3] ps 4) := by
 have HR : Hid (Ow.Rd w a D ∧ Fd.U64 D ∧ n = D.length ∧ n ≤ cap ∧ n ≤ 1000000) := ⟨hr, hu, hn, hcap, h3⟩;clear hr hn hcap hu h3
 go_enter Tryz.func14, Tryz.ntmps14
 go_upto_region 2 with fail
 obtain ⟨W, hW⟩ : ∃ V, V = (w.alloc (.cells #[.slice none 0 0, .slice none 0 0, .slice none 0 0, .slice none 0 0] 52)).alloc (.cells #[.slice none 0 0, .slice none 0 0, .slice none 0 0, .slice none 0 0] 52) := ⟨_, rfl⟩
 have HWb : Hid (Below w.heap.size w W) := by rw [hW]; exact (below_alloc0 w _).trans ((below_alloc0 (w.alloc _) _).mono (by simp))
 have HWr : Hid (W.heap[w.heap.size]? = some (.cells #[.slice none 0 0, .slice none 0 0, .slice none 0 0, .slice none 0 0] 52)) := by
  rw [hW];exact ((below_alloc0 (w.alloc _) _).block _ (by simp)).trans (heap_alloc_new _ _)
 have HWp : Hid (W.heap[w.heap.size + 1]? = some (.cells #[.slice none 0 0, .slice none 0 0, .slice none 0 0, .slice none 0 0] 52)) := by
  rw [hW];have h1 := heap_alloc_new (w.alloc (.cells #[.slice none 0 0, .slice none 0 0, .slice none 0 0, .slice none 0 0] 52)) (.cells #[.slice none 0 0, .slice none 0 0, .slice none 0 0, .slice none 0 0] 52)
  have h2 : (w.alloc (.cells #[.slice none 0 0, .slice none 0 0, .slice none 0 0, .slice none 0 0] 52)).heap.size = w.heap.size + 1 := by simp
  rw [h2] at h1;exact h1
 rw [← hW];obtain ⟨r, hr⟩ : ∃ k, k = w.heap.size := ⟨_, rfl⟩;obtain ⟨p, hp⟩ : ∃ k, k = w.heap.size + 1 := ⟨_, rfl⟩;rw [← hp] at HWp ⊢;rw [← hr] at HWr ⊢;have Hrp : Hid (r = w.heap.size ∧ p = w.heap.size + 1) := ⟨hr, hp⟩;clear hW hr hp
 go_wp2_with fail
 go_loopw [0, 7] (fun s i wr => ∃ (k : Nat) (ak : Option Addr) (nk ck : Nat) (Dk : List Int) (a0 a1 a2 a3 : Option Addr) (m0 m1 m2 m3 d0 d1 d2 d3 : Nat) (ps : List (List Int)), k ≤ 4 ∧ i = .int .i64 k ∧ s = .slice ak nk ck ∧ Hid (nk = Dk.length ∧ nk ≤ ck ∧ nk ≤ 1000000 ∧ Ow.Rd w ak Dk ∧ Fd.U64 Dk ∧ PrO D Dk ps k) ∧ Hid (PrS w [.slice a0 m0 d0, .slice a1 m1 d1, .slice a2 m2 d2, .slice a3 m3 d3] ps k) ∧ Hid (wr.heap[r]? = some (.cells #[.slice none 0 0, .slice none 0 0, .slice none 0 0, .slice none 0 0] 52) ∧ wr.heap[p]? = some (.cells #[.slice a0 m0 d0, .slice a1 m1 d1, .slice a2 m2 d2, .slice a3 m3 d3] 52)) ∧ Hid (Below w.heap.size w wr)) (fun _ i _ => 4 - (intOf i).toNat)
 case atStart => exact ⟨0, a, n, cap, D, _, _, _, _, _, _, _, _, _, _, _, _, [], by omega, rfl, rfl, ⟨HR.out.2.2.1, HR.out.2.2.2.1, HR.out.2.2.2.2, HR.out.1, HR.out.2.1, PrO.start D⟩, PrS.start, ⟨HWr.out, HWp.out⟩, HWb.out⟩
 case round =>
  clear HWr HWp HWb;obtain ⟨k, ak, nk, ck, Dk, a0, a1, a2, a3, m0, m1, m2, m3, d0, d1, d2, d3, ps, hk, rfl, rfl, HK, HP, HH, HB⟩ := hrel
  have c0 : wr.cell? ⟨p, 0, none⟩ = some (.slice a0 m0 d0) := by rw [cell_of_heap HH.out.2]; rfl
  have c1 : wr.cell? ⟨p, 1, none⟩ = some (.slice a1 m1 d1) := by rw [cell_of_heap HH.out.2]; rfl
  have c2 : wr.cell? ⟨p, 2, none⟩ = some (.slice a2 m2 d2) := by rw [cell_of_heap HH.out.2]; rfl
  have c3 : wr.cell? ⟨p, 3, none⟩ = some (.slice a3 m3 d3) := by rw [cell_of_heap HH.out.2]; rfl
  by_cases h4 : k < 4
  ·have g1 : decide ((k : Int) < 4) = true := decide_eq_true (by omega)
   by_cases h0 : nk = 0
   ·have HN : Hid (pts D = none) := HK.out.2.2.2.2.2.none h4 (Or.inl (List.length_eq_zero_iff.1 (by rw [← HK.out.1]; exact h0)))
    subst h0;clear HK;obtain ⟨R, hR⟩ : ∃ R, R = (#[.slice a0 m0 d0, .slice a1 m1 d1, .slice a2 m2 d2, .slice a3 m3 d3] : Array Value) := ⟨_, rfl⟩
    have HRs : Hid (R.size = 4) := by rw [hR]; rfl
    have HRo : Hid (R.all (·.oneCell') = true) := by rw [hR]; show _ = _; simp [Value.oneCell']
    have HHp : Hid (wr.heap[p]? = some (.cells R 52)) := by rw [hR]; exact HH.out.2
    have HRq := hid hR;have HQ : Hid ((wr.setRow r R).heap[r]? = some (.cells R 52)) := setRow_heap _ r _ _ _ _ HH.out.1;have HB2 : Hid (Below w.heap.size w (wr.setRow r R)) := HB.out.trans ((Upd.setRow r wr R).below (by rw [Hrp.out.1]; exact Nat.le_refl _) (by have := HB.out.size; omega));clear hR c0 c1 c2 c3
    go_wp2_with (first
      | (refine wpList_load_row rfl 52 _ rfl p rfl 52 R (0, 0) _ HHp.out Tryz.underlying52 rfl (by rw [HRs.out]; exact arSize) ?_)
      | (refine wpList_store_row rfl 52 _ _ rfl r R rfl rfl 52 #[.slice none 0 0, .slice none 0 0, .slice none 0 0, .slice none 0 0] HH.out.1 (by rw [HRs.out]; exact arSize) (by rw [HRs.out]; rfl) HRo.out ?_)
      | go_in)
    refine bodyPost_ret (Fd.results_cellrow_tmp rfl _ _ r 52 R (0, 0) _ rfl HQ.out Tryz.underlying52 rfl (by rw [HRs.out]; exact arSize)) rfl ?_;rw [HRq.out];exact ⟨a0, a1, a2, a3, m0, m1, m2, m3, d0, d1, d2, d3, false, rfl, by have := HB2.out; rw [HRq.out] at this; exact this, fun _ => HN.out, fun q => by cases q⟩
   ·obtain ⟨x, l, hD⟩ : ∃ x l, Dk = x :: l := by
     cases Dk with
     | nil => exact absurd HK.out.1 h0
     | cons x l => exact ⟨x, l, rfl⟩
    have hx0 := HK.out.2.2.2.2.1 x (by rw [hD]; exact List.mem_cons_self)
    have hl : nk = l.length + 1 := by rw [HK.out.1, hD]; rfl
    obtain ⟨g, off, rfl, hc⟩ := HK.out.2.2.2.1 0 x (by rw [hD]; rfl);have e0 : wr.cell? ⟨g, off, none⟩ = some (.int .u64 x) := (HB.out.cell (cell_lt hc)).trans hc
    have g0 : ((nk : Int) == 0) = false := by simpa using h0
    have hn1 : (0 : Int) < (nk : Int) := by omega
    have hw1 : wrap64 ((nk : Int) - 1) = (nk : Int) - 1 := by
     have := HK.out.2.2.1;unfold wrap64;omega
    have hwn : IntKind.u64.wrap ((nk : Int) - 1) = (nk : Int) - 1 := by
     have := HK.out.2.2.1;simp [IntKind.wrap, IntKind.bits, IntKind.signed];omega
    by_cases hx : (l.length : Int) < x
    ·have gx : decide ((nk : Int) - 1 < x) = true := decide_eq_true (by omega)
     have HN : Hid (pts D = none) := HK.out.2.2.2.2.2.none h4 (Or.inr ⟨x, l, hD, hx⟩);clear HK hc hD hl hx0 hx;obtain ⟨R, hR⟩ : ∃ R, R = (#[.slice a0 m0 d0, .slice a1 m1 d1, .slice a2 m2 d2, .slice a3 m3 d3] : Array Value) := ⟨_, rfl⟩
     have HRs : Hid (R.size = 4) := by rw [hR]; rfl
     have HRo : Hid (R.all (·.oneCell') = true) := by rw [hR]; show _ = _; simp [Value.oneCell']
     have HHp : Hid (wr.heap[p]? = some (.cells R 52)) := by rw [hR]; exact HH.out.2
     have HRq := hid hR;have HQ : Hid ((wr.setRow r R).heap[r]? = some (.cells R 52)) := setRow_heap _ r _ _ _ _ HH.out.1;have HB2 : Hid (Below w.heap.size w (wr.setRow r R)) := HB.out.trans ((Upd.setRow r wr R).below (by rw [Hrp.out.1]; exact Nat.le_refl _) (by have := HB.out.size; omega));clear hR c0 c1 c2 c3
     go_wp2_with (first
       | (refine wpList_load_row rfl 52 _ rfl p rfl 52 R (0, 0) _ HHp.out Tryz.underlying52 rfl (by rw [HRs.out]; exact arSize) ?_)
       | (refine wpList_store_row rfl 52 _ _ rfl r R rfl rfl 52 #[.slice none 0 0, .slice none 0 0, .slice none 0 0, .slice none 0 0] HH.out.1 (by rw [HRs.out]; exact arSize) (by rw [HRs.out]; rfl) HRo.out ?_)
       | go_in)
     refine bodyPost_ret (Fd.results_cellrow_tmp rfl _ _ r 52 R (0, 0) _ rfl HQ.out Tryz.underlying52 rfl (by rw [HRs.out]; exact arSize)) rfl ?_;rw [HRq.out];exact ⟨a0, a1, a2, a3, m0, m1, m2, m3, d0, d1, d2, d3, false, rfl, by have := HB2.out; rw [HRq.out] at this; exact this, fun _ => HN.out, fun q => by cases q⟩
    ·have gx : decide ((nk : Int) - 1 < x) = false := decide_eq_false (by omega)
     obtain ⟨m, rfl⟩ : ∃ m : Nat, x = m := ⟨x.toNat, by omega⟩
     have hm : m ≤ l.length := by omega
     have hwx : IntKind.i64.wrap (m : Int) = m := by
      have := HK.out.2.2.1;simp [IntKind.wrap, IntKind.bits, IntKind.signed];omega
     obtain ⟨x1, y1, q1, q2, q3⟩ := Fd.cut_wlh Dk (some ⟨g, off, none⟩) nk ck 1 (1 + m) HK.out.1 (by omega) (by omega) HK.out.2.1;obtain ⟨x2, y2, p1, p2, p3⟩ := Fd.cut_wl Dk (some ⟨g, off, none⟩) nk ck (1 + m) HK.out.1 (by omega) HK.out.2.1;rw [show ((1 : Nat) : Int) = 1 from rfl, show ((1 + m : Nat) : Int) = 1 + (m : Int) by omega, show 1 + m - 1 = m by omega] at q1;rw [show ((1 + m : Nat) : Int) = 1 + (m : Int) by omega] at p1
     have HV : Hid (Prt w (.slice x1 m y1) (l.take m)) := ⟨x1, m, y1, rfl, by rw [List.length_take]; omega, by omega, by
       have := q3 w HK.out.2.2.2.1;rw [hD, Nat.add_comm 1 m, List.take_succ_cons, List.drop_succ_cons, List.drop_zero] at this
       exact this⟩
     have HK2 : Hid (nk - (1 + m) = (l.drop m).length ∧ nk - (1 + m) ≤ y2 ∧ nk - (1 + m) ≤ 1000000 ∧ Ow.Rd w x2 (l.drop m) ∧ Fd.U64 (l.drop m) ∧ PrO D (l.drop m) (ps ++ [l.take m]) (k + 1)) := by
      have h1 := p3 w HK.out.2.2.2.1;rw [hD, Nat.add_comm 1 m, List.drop_succ_cons] at h1;have h2 := HK.out.2.2.2.2.2.step h4 hD (by omega);rw [Int.toNat_natCast] at h2;exact ⟨by rw [List.length_drop]; omega, p2, by have := HK.out.2.2.1; omega, h1, fun z hz => HK.out.2.2.2.2.1 z (by rw [hD]; exact List.mem_cons_of_mem _ (List.mem_of_mem_drop hz)), h2⟩
     have HPn := HP.out.step h4 HV.out;have HPn' := hid HPn
     have hs1 : wrap64 (1 + (m : Int)) = 1 + (m : Int) := by
      have := HK.out.2.2.1;unfold wrap64;omega
     clear HK hc hD hl hx0 hx q2 q3 p2 p3 HV HP HPn
     have hk4 : k = 0 ∨ k = 1 ∨ k = 2 ∨ k = 3 := by omega
     rcases hk4 with rfl | rfl | rfl | rfl
     ·have hz : ((0 : Nat) : Int) = 0 := rfl
      have f0 : wr.frozen? ⟨p, 0, none⟩ = false := frozen_of_heap HH.out.2
      have HS : Hid ((wr.setCell ⟨p, 0, none⟩ (.slice x1 m y1)).heap[r]? = some (.cells #[.slice none 0 0, .slice none 0 0, .slice none 0 0, .slice none 0 0] 52) ∧ (wr.setCell ⟨p, 0, none⟩ (.slice x1 m y1)).heap[p]? = some (.cells #[.slice x1 m y1, .slice a1 m1 d1, .slice a2 m2 d2, .slice a3 m3 d3] 52)) :=
       ⟨by rw [Below.heap_setCell _ _ _ _ (show r ≠ p by have h1 := Hrp.out.1; have h2 := Hrp.out.2; omega)]; exact HH.out.1, by rw [cellSet_heap HH.out.2]; rfl⟩
      have HSb : Hid (Below w.heap.size w (wr.setCell ⟨p, 0, none⟩ (.slice x1 m y1))) := HB.out.trans ((Upd.setCell p 0 wr (.slice x1 m y1)).below (by have h2 := Hrp.out.2; omega) (by have := HB.out.size; omega));rw [hz];clear c0 c1 c2 c3
      have cK : wr.cell? ⟨p, 0, none⟩ = some (.slice a0 m0 d0) := by rw [cell_of_heap HH.out.2]; rfl
      go_wp2
      go_region
      go_wp2;go_roundw
      case rel => exact ⟨1, x2, nk - (1 + m), y2, l.drop m, x1, a1, a2, a3, m, m1, m2, m3, y1, d1, d2, d3, ps ++ [l.take m], by omega, rfl, rfl, HK2, HPn', ⟨HS.out.1, HS.out.2⟩, HSb.out.trans (Di.drewN_below (w := wr.setCell ⟨p, 0, none⟩ (.slice x1 m y1)) ⟨1, rfl⟩ |>.mono HSb.out.size)⟩
      case measure => simp [intOf]
     ·have hz : ((1 : Nat) : Int) = 1 := rfl
      have f0 : wr.frozen? ⟨p, 1, none⟩ = false := frozen_of_heap HH.out.2
      have HS : Hid ((wr.setCell ⟨p, 1, none⟩ (.slice x1 m y1)).heap[r]? = some (.cells #[.slice none 0 0, .slice none 0 0, .slice none 0 0, .slice none 0 0] 52) ∧ (wr.setCell ⟨p, 1, none⟩ (.slice x1 m y1)).heap[p]? = some (.cells #[.slice a0 m0 d0, .slice x1 m y1, .slice a2 m2 d2, .slice a3 m3 d3] 52)) :=
       ⟨by rw [Below.heap_setCell _ _ _ _ (show r ≠ p by have h1 := Hrp.out.1; have h2 := Hrp.out.2; omega)]; exact HH.out.1, by rw [cellSet_heap HH.out.2]; rfl⟩
      have HSb : Hid (Below w.heap.size w (wr.setCell ⟨p, 1, none⟩ (.slice x1 m y1))) := HB.out.trans ((Upd.setCell p 1 wr (.slice x1 m y1)).below (by have h2 := Hrp.out.2; omega) (by have := HB.out.size; omega));rw [hz];clear c0 c1 c2 c3
      have cK : wr.cell? ⟨p, 1, none⟩ = some (.slice a1 m1 d1) := by rw [cell_of_heap HH.out.2]; rfl
      go_wp2
      go_region
      go_wp2;go_roundw
      case rel => exact ⟨2, x2, nk - (1 + m), y2, l.drop m, a0, x1, a2, a3, m0, m, m2, m3, d0, y1, d2, d3, ps ++ [l.take m], by omega, rfl, rfl, HK2, HPn', ⟨HS.out.1, HS.out.2⟩, HSb.out.trans (Di.drewN_below (w := wr.setCell ⟨p, 1, none⟩ (.slice x1 m y1)) ⟨1, rfl⟩ |>.mono HSb.out.size)⟩
      case measure => simp [intOf]
     ·have hz : ((2 : Nat) : Int) = 2 := rfl
      have f0 : wr.frozen? ⟨p, 2, none⟩ = false := frozen_of_heap HH.out.2
      have HS : Hid ((wr.setCell ⟨p, 2, none⟩ (.slice x1 m y1)).heap[r]? = some (.cells #[.slice none 0 0, .slice none 0 0, .slice none 0 0, .slice none 0 0] 52) ∧ (wr.setCell ⟨p, 2, none⟩ (.slice x1 m y1)).heap[p]? = some (.cells #[.slice a0 m0 d0, .slice a1 m1 d1, .slice x1 m y1, .slice a3 m3 d3] 52)) :=
       ⟨by rw [Below.heap_setCell _ _ _ _ (show r ≠ p by have h1 := Hrp.out.1; have h2 := Hrp.out.2; omega)]; exact HH.out.1, by rw [cellSet_heap HH.out.2]; rfl⟩
      have HSb : Hid (Below w.heap.size w (wr.setCell ⟨p, 2, none⟩ (.slice x1 m y1))) := HB.out.trans ((Upd.setCell p 2 wr (.slice x1 m y1)).below (by have h2 := Hrp.out.2; omega) (by have := HB.out.size; omega));rw [hz];clear c0 c1 c2 c3
      have cK : wr.cell? ⟨p, 2, none⟩ = some (.slice a2 m2 d2) := by rw [cell_of_heap HH.out.2]; rfl
      go_wp2
      go_region
      go_wp2;go_roundw
      case rel => exact ⟨3, x2, nk - (1 + m), y2, l.drop m, a0, a1, x1, a3, m0, m1, m, m3, d0, d1, y1, d3, ps ++ [l.take m], by omega, rfl, rfl, HK2, HPn', ⟨HS.out.1, HS.out.2⟩, HSb.out.trans (Di.drewN_below (w := wr.setCell ⟨p, 2, none⟩ (.slice x1 m y1)) ⟨1, rfl⟩ |>.mono HSb.out.size)⟩
      case measure => simp [intOf]
     ·have hz : ((3 : Nat) : Int) = 3 := rfl
      have f0 : wr.frozen? ⟨p, 3, none⟩ = false := frozen_of_heap HH.out.2
      have HS : Hid ((wr.setCell ⟨p, 3, none⟩ (.slice x1 m y1)).heap[r]? = some (.cells #[.slice none 0 0, .slice none 0 0, .slice none 0 0, .slice none 0 0] 52) ∧ (wr.setCell ⟨p, 3, none⟩ (.slice x1 m y1)).heap[p]? = some (.cells #[.slice a0 m0 d0, .slice a1 m1 d1, .slice a2 m2 d2, .slice x1 m y1] 52)) :=
       ⟨by rw [Below.heap_setCell _ _ _ _ (show r ≠ p by have h1 := Hrp.out.1; have h2 := Hrp.out.2; omega)]; exact HH.out.1, by rw [cellSet_heap HH.out.2]; rfl⟩
      have HSb : Hid (Below w.heap.size w (wr.setCell ⟨p, 3, none⟩ (.slice x1 m y1))) := HB.out.trans ((Upd.setCell p 3 wr (.slice x1 m y1)).below (by have h2 := Hrp.out.2; omega) (by have := HB.out.size; omega));rw [hz];clear c0 c1 c2 c3
      have cK : wr.cell? ⟨p, 3, none⟩ = some (.slice a3 m3 d3) := by rw [cell_of_heap HH.out.2]; rfl
      go_wp2
      go_region
      go_wp2;go_roundw
      case rel => exact ⟨4, x2, nk - (1 + m), y2, l.drop m, a0, a1, a2, x1, m0, m1, m2, m, d0, d1, d2, y1, ps ++ [l.take m], by omega, rfl, rfl, HK2, HPn', ⟨HS.out.1, HS.out.2⟩, HSb.out.trans (Di.drewN_below (w := wr.setCell ⟨p, 3, none⟩ (.slice x1 m y1)) ⟨1, rfl⟩ |>.mono HSb.out.size)⟩
      case measure => simp [intOf]
  ·obtain rfl : k = 4 := by omega
   have g1 : decide (((4 : Nat) : Int) < 4) = false := by decide
   by_cases h0 : nk = 0
   ·subst h0
    have HN : Hid (pts D = some ps) := by
     have h1 : Dk = [] := List.length_eq_zero_iff.1 HK.out.1.symm;have h2 := HK.out.2.2.2.2.2.done;rw [if_pos h1] at h2;exact h2
    clear HK;obtain ⟨R, hR⟩ : ∃ R, R = (#[.slice a0 m0 d0, .slice a1 m1 d1, .slice a2 m2 d2, .slice a3 m3 d3] : Array Value) := ⟨_, rfl⟩
    have HRs : Hid (R.size = 4) := by rw [hR]; rfl
    have HRo : Hid (R.all (·.oneCell') = true) := by rw [hR]; show _ = _; simp [Value.oneCell']
    have HHp : Hid (wr.heap[p]? = some (.cells R 52)) := by rw [hR]; exact HH.out.2
    have HRq := hid hR;have HQ : Hid ((wr.setRow r R).heap[r]? = some (.cells R 52)) := setRow_heap _ r _ _ _ _ HH.out.1;have HB2 : Hid (Below w.heap.size w (wr.setRow r R)) := HB.out.trans ((Upd.setRow r wr R).below (by rw [Hrp.out.1]; exact Nat.le_refl _) (by have := HB.out.size; omega));clear hR c0 c1 c2 c3
    go_wp2_with (first
      | (refine wpList_load_row rfl 52 _ rfl p rfl 52 R (0, 0) _ HHp.out Tryz.underlying52 rfl (by rw [HRs.out]; exact arSize) ?_)
      | (refine wpList_store_row rfl 52 _ _ rfl r R rfl rfl 52 #[.slice none 0 0, .slice none 0 0, .slice none 0 0, .slice none 0 0] HH.out.1 (by rw [HRs.out]; exact arSize) (by rw [HRs.out]; rfl) HRo.out ?_)
      | go_in)
    refine bodyPost_ret (Fd.results_cellrow_tmp rfl _ _ r 52 R (0, 0) _ rfl HQ.out Tryz.underlying52 rfl (by rw [HRs.out]; exact arSize)) rfl ?_;rw [HRq.out];exact ⟨a0, a1, a2, a3, m0, m1, m2, m3, d0, d1, d2, d3, true, rfl, by have := HB2.out; rw [HRq.out] at this; exact this, (fun q => by cases q), fun _ => ⟨ps, HN.out, HP.out⟩⟩
   ·have g0 : ((nk : Int) == 0) = false := by simpa using h0
    have HN : Hid (pts D = none) := by
     have h1 : Dk ≠ [] := fun q => h0 (by rw [HK.out.1, q]; rfl)
     have h2 := HK.out.2.2.2.2.2.done;rw [if_neg h1] at h2;exact h2
    clear HK;obtain ⟨R, hR⟩ : ∃ R, R = (#[.slice a0 m0 d0, .slice a1 m1 d1, .slice a2 m2 d2, .slice a3 m3 d3] : Array Value) := ⟨_, rfl⟩
    have HRs : Hid (R.size = 4) := by rw [hR]; rfl
    have HRo : Hid (R.all (·.oneCell') = true) := by rw [hR]; show _ = _; simp [Value.oneCell']
    have HHp : Hid (wr.heap[p]? = some (.cells R 52)) := by rw [hR]; exact HH.out.2
    have HRq := hid hR;have HQ : Hid ((wr.setRow r R).heap[r]? = some (.cells R 52)) := setRow_heap _ r _ _ _ _ HH.out.1;have HB2 : Hid (Below w.heap.size w (wr.setRow r R)) := HB.out.trans ((Upd.setRow r wr R).below (by rw [Hrp.out.1]; exact Nat.le_refl _) (by have := HB.out.size; omega));clear hR c0 c1 c2 c3
    go_wp2_with (first
      | (refine wpList_load_row rfl 52 _ rfl p rfl 52 R (0, 0) _ HHp.out Tryz.underlying52 rfl (by rw [HRs.out]; exact arSize) ?_)
      | (refine wpList_store_row rfl 52 _ _ rfl r R rfl rfl 52 #[.slice none 0 0, .slice none 0 0, .slice none 0 0, .slice none 0 0] HH.out.1 (by rw [HRs.out]; exact arSize) (by rw [HRs.out]; rfl) HRo.out ?_)
      | go_in)
    refine bodyPost_ret (Fd.results_cellrow_tmp rfl _ _ r 52 R (0, 0) _ rfl HQ.out Tryz.underlying52 rfl (by rw [HRs.out]; exact arSize)) rfl ?_;rw [HRq.out];exact ⟨a0, a1, a2, a3, m0, m1, m2, m3, d0, d1, d2, d3, false, rfl, by have := HB2.out; rw [HRq.out] at this; exact this, fun _ => HN.out, fun q => by cases q⟩
end Go.Proofs.YtinaeifpoljfoaaGreatDoor
