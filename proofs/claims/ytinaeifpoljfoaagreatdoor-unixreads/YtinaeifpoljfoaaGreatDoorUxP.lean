import Derived.Test.YtinaeifpoljfoaaGreatDoorUxKTUxR
import Derived.Test.YtinaeifpoljfoaaGreatDoorRfW18
set_option linter.all false
set_option maxRecDepth 100000
set_option maxHeartbeats 16000000
namespace Go.Proofs.YtinaeifpoljfoaaGreatDoor
open Go.RowKit
def rxT : List TypeId := [130, 133, 151]
structure RG (lo : Nat) (w w' : World) : Prop where
 os : w'.os = w.os
 tape : w'.tape = w.tape
 output : w'.output = w.output
 size : w.heap.size ≤ w'.heap.size
 low : ∀ k, k < lo → w'.heap[k]? = w.heap[k]?
 other : ∀ (k : Nat) (cs : Array Value) (t : TypeId) (fr : Nat × Nat), w.heap[k]? = some (.cells cs t fr) → rxT.contains t = false → w'.heap[k]? = some (.cells cs t fr)
 mp : ∀ (k : Nat) es cl, w.heap[k]? = some (.map es cl) → w'.heap[k]? = some (.map es cl)
section
variable {lo : Nat} {a b c : World}
theorem RG.refl (lo : Nat) (a : World) : RG lo a a := ⟨rfl, rfl, rfl, Nat.le_refl _, fun _ _ => rfl, fun _ _ _ _ h _ => h, fun _ _ _ h => h⟩
theorem RG.trans (h : RG lo a b) (k : RG lo b c) : RG lo a c :=
 ⟨k.os.trans h.os, k.tape.trans h.tape, k.output.trans h.output, Nat.le_trans h.size k.size, fun i hi => (k.low i hi).trans (h.low i hi), fun i cs t fr hi ht => k.other i cs t fr (h.other i cs t fr hi ht) ht, fun i es cl hi => k.mp i es cl (h.mp i es cl hi)⟩
theorem RG.of_ru {B : Nat} (h : Fd.RU B a b) (hl : lo ≤ B) : RG lo a b := by
 refine ⟨h.os, h.tape, h.output, h.size, fun i hi => h.low i (by omega), fun i cs t fr hi ht => h.other i cs t fr hi ?_ ?_, h.mp⟩
 ·rintro rfl
  revert ht
  decide
 ·rintro rfl
  revert ht
  decide
theorem RG.of_upd {t : Nat} {cs : Array Value} {fr : Nat × Nat} (h : Upd t a b) (ht : a.heap[t]? = some (.cells cs 151 fr)) (hl : lo ≤ t) : RG lo a b := by
 refine ⟨h.os, h.tape, h.output, h.size, fun i hi => ?_, fun i cs' t' fr' hi hT => (h.block i (lt_of_heap hi) ?_).trans hi, fun i es cl hi => (h.block i (lt_of_heap hi) ?_).trans hi⟩
 ·have := lt_of_heap ht
  exact h.block i (by omega) (by omega)
 ·rintro rfl
  rw [ht] at hi;simp only [Option.some.injEq, Obj.cells.injEq] at hi;rw [← hi.2.1] at hT
  revert hT
  decide
 ·rintro rfl
  rw [ht] at hi
  cases hi
theorem RG.below {M : Nat} (h : RG lo a b) (hM : M ≤ lo) : Below M a b := ⟨h.os, h.tape, h.output, h.size, fun k hk => h.low k (by omega)⟩
theorem un_rx {t : TypeId} (h : unB t = true) : rxT.contains t = false := by
 have h3 : t ∈ unT := List.contains_iff_mem.1 h;simp only [unT, List.mem_cons, List.not_mem_nil, or_false] at h3
 rcases h3 with rfl | rfl | rfl | rfl | rfl <;> decide
theorem st_rx {t : TypeId} (h : stB t = true) : rxT.contains t = false := by
 have h3 : t ∈ stT := List.contains_iff_mem.1 h;simp only [stT, List.mem_cons, List.not_mem_nil, or_false] at h3
 rcases h3 with rfl | rfl | rfl | rfl | rfl <;> decide
theorem UnAt.rg {L : Pl} {U : Un} (h : UnAt a L U) (hu : RG lo a b) : UnAt b L U := h.keep
 (fun k hk => by
   rcases hk with ⟨es, cl, e⟩ | ⟨cs, t, fr, e, ht⟩
   · exact (hu.mp _ _ _ e).trans e.symm
   · exact (hu.other _ _ _ _ e (un_rx ht)).trans e.symm)
 (fun g cs fr hg => (hu.other _ _ _ _ hg (by decide)).trans hg.symm)
 ((hu.other _ _ _ _ h.head (by decide)).trans h.head.symm)
theorem RG.isSt {k : Nat} (h : RG lo a b) (hk : IsSt a k) : b.heap[k]? = a.heap[k]? := by
 obtain ⟨cs, t, fr, e, ht⟩ := hk;exact (h.other _ _ _ _ e (st_rx ht)).trans e.symm
end
structure RXA (w : World) (B x f p s t : Nat) (L : List Fd.En) (F : Fd.FS) : Prop where
 head : w.heap[x]? = some (.cells #[ptr f, ptr p, ptr s, ptr t] 83)
 fds : ∃ v, Fd.RIs w B f v L
 rl : Fd.RL L F
 inv : Fd.Inv F
 tB : B ≤ t
 Bw : B ≤ w.heap.size
section
variable {w w' : World} {B x f p s t : Nat} {L : List Fd.En} {F : Fd.FS}
theorem RXA.c0 (h : RXA w B x f p s t L F) : w.cell? ⟨x, 0, none⟩ = some (ptr f) := by rw [cell_of_heap h.head]; rfl
theorem RXA.c3 (h : RXA w B x f p s t L F) : w.cell? ⟨x, 3, none⟩ = some (ptr t) := by rw [cell_of_heap h.head]; rfl
end
theorem rl_zero : Fd.RL [] Fd.FS.zero := by
 unfold Fd.RL Fd.refL
 have : Fd.ord Fd.FS.zero.t = [] := by kernel_rfl
 rw [this]
 rfl
theorem lit24 : (#[.int .i64 0, .int .i64 0, .int .i64 0, .int .i64 0, .int .i64 0, .int .i64 0, .int .i64 0, .int .i64 0, .int .i64 0, .int .i64 0, .int .i64 0, .int .i64 0, .int .i64 0, .int .i64 0, .int .i64 0, .int .i64 0, .int .i64 0, .int .i64 0, .int .i64 0, .int .i64 0, .int .i64 0, .int .i64 0, .int .i64 0, .int .i64 0] : Array Value) = Ow.irow (Pc.rqL (Pc.trS Pc.St0)) := by kernel_rfl
theorem rbegin21_at (c : Nat) (w : World) (h : Pc.RT w c (Pc.trS Pc.St0)) :
  Calls Tryz.prog 73 #[ptr c] w fun e w' => e = .returned (.int .i64 1) ∧ Upd c w w' := by
 have hlo : w.rangeAt c 0 (Ow.ivs (Pc.rqL (Pc.trS Pc.St0))) := fun j v hv => by
  rw [cell_of_heap h, Nat.zero_add]
  simpa [Ow.irow, Ow.ivs] using hv
 have hne : ∀ W, (binOp .neq 149 (.agg (Ow.ivs (Pc.rqL (Pc.trS Pc.St0))).toArray) (.agg #[.int .i64 0, .int .i64 0, .int .i64 0, .int .i64 0, .int .i64 0, .int .i64 0, .int .i64 0, .int .i64 0, .int .i64 0, .int .i64 0, .int .i64 0, .int .i64 0, .int .i64 0, .int .i64 0, .int .i64 0, .int .i64 0, .int .i64 0, .int .i64 0, .int .i64 0, .int .i64 0, .int .i64 0, .int .i64 0, .int .i64 0, .int .i64 0])).run Tryz.prog W = .ok (.bool false) W := fun W => by kernel_rfl
 have c0 : w.cell? ⟨c, 0, none⟩ = some (.int .i64 0) := by rw [cell_of_heap h]; kernel_rfl
 have f0 := h.free 0;have HL := hid hlo;generalize hiv : Ow.ivs (Pc.rqL (Pc.trS Pc.St0)) = V at *
 have hsz : (Tryz.prog.info? 149).map (·.size) = some V.length := by rw [← hiv]; kernel_rfl
 clear h hlo hiv
 go_enter Tryz.func73, Tryz.ntmps73
 go_wp2_with (first | (refine wpList_load_mid rfl 149 _ rfl c 0 rfl V _ HL.out Tryz.underlying149 rfl hsz ?_) | go_in)
 go_ret;exact ⟨rfl, Upd.setCell _ _ _ _⟩
theorem xnew_at (w : World) : Calls Tryz.prog 29 #[] w fun e w' => ∃ x f p s t, e = .returned (ptr x) ∧ RXA w' w.heap.size x f p s t [] Fd.FS.zero ∧ Pc.RT w' t (Pc.trS Pc.St0) ∧ Below w.heap.size w w' := by
 have h3 := Sg.xnew_at
 have hs : ∀ o1 o2, ((w.alloc o1).alloc o2).heap.size = w.heap.size + 2 := fun o1 o2 => by simp
 have hx : ∀ o1 o2, ((w.alloc o1).alloc o2).heap[w.heap.size]? = some o1 := fun o1 o2 => by rw [Below.heap_alloc _ _ _ (by simp)]; exact heap_alloc_new _ _
 have hB : ∀ o1 o2, Below w.heap.size w ((w.alloc o1).alloc o2) := fun o1 o2 => (below_alloc w o1).trans ((below_alloc (w.alloc o1) o2).mono (by simp))
 go_enter Tryz.func29, Tryz.ntmps29
 go_wp2_with fail
 refine (h3 _).mono ?_;rintro e w2 ⟨rfl, -, hb⟩;have HB2 : Hid (Below w.heap.size w w2) := (hB _ _).trans (hb.mono (hB _ _).size);have HF2 : Hid (w2.heap[w.heap.size]? = some (.cells #[.slice none 0 0] 130)) := (hb.block _ (by rw [hs]; omega)).trans (hx _ _);clear hb h3 hs hx hB;go_wp2;go_ret;have hz := lit24
 have bb : ∀ o1 o2, Below w2.heap.size w2 ((w2.alloc o1).alloc o2) := fun o1 o2 => (below_alloc w2 o1).trans ((below_alloc (w2.alloc o1) o2).mono (by simp))
 refine ⟨w2.heap.size + 1, w.heap.size, w.heap.size + 1, w.heap.size + 1 + 1, w2.heap.size, rfl, ⟨?_, ⟨.slice none 0 0, ?_, World.ownsRow_nil _ _ _ _, fun e he => (by simp at he), Nat.le_refl _⟩, rl_zero, Fd.Inv.zero, HB2.out.size, ?_⟩, ?_, HB2.out.trans ((bb _ _).mono HB2.out.size)⟩
 ·simpa using heap_alloc_new (w2.alloc _) _
 ·exact ((bb _ _).block _ (lt_of_heap HF2.out)).trans HF2.out
 ·have := HB2.out.size
  simp;omega
 ·unfold Pc.RT
  rw [← hz, Below.heap_alloc _ _ _ (by simp)];exact heap_alloc_new _ _
theorem xbegin_at {w : World} {B x f p s t : Nat} (h : RXA w B x f p s t [] Fd.FS.zero) (ht : Pc.RT w t (Pc.trS Pc.St0)) :
  Calls Tryz.prog 34 #[ptr x, .int .i64 1] w fun e w' => e = .returned (.int .i64 0) ∧ RG B w w' := by
 have c0 := h.c0;have c3 := h.c3;have hb := rbegin21_at t w ht;have HX : Hid (RXA w B x f p s t [] Fd.FS.zero ∧ Pc.RT w t (Pc.trS Pc.St0)) := ⟨h, ht⟩;clear h ht
 go_enter Tryz.func34, Tryz.ntmps34
 go_wp2_with fail
 refine hb.mono ?_;rintro e w1 ⟨rfl, hu⟩
 have HE1 : Hid (∃ L F, RXA w1 B x f p s t L F ∧ RG B w w1) := by
  obtain ⟨hX, hT⟩ := HX.out;have hg := RG.of_upd hu hT hX.tB;obtain ⟨v, hv⟩ := hX.fds
  have hk : ∀ (k : Nat) (cs : Array Value) (ty : TypeId) (fr : Nat × Nat), w.heap[k]? = some (.cells cs ty fr) → ty ≠ 151 → w1.heap[k]? = some (.cells cs ty fr) := fun k cs ty fr hk hne => (hu.block k (lt_of_heap hk) (fun e => by
    subst e;rw [hT] at hk;simp only [Option.some.injEq, Obj.cells.injEq] at hk
    exact hne hk.2.1.symm)).trans hk
  exact ⟨[], Fd.FS.zero, ⟨hk _ _ _ _ hX.head (by decide), ⟨v, hv.keep (fun k cs ty fr hh hty => hk _ _ _ _ hh (by rcases hty with rfl | rfl | rfl <;> decide))⟩, hX.rl, hX.inv, hX.tB, Nat.le_trans hX.Bw hu.size⟩, hg⟩
 clear hb hu c0 c3
 go_wp2_with fail
 go_loopw [5] (fun s' wr => ∃ k : Nat, k ≤ 3 ∧ s' = .int .i64 k ∧ Hid (∃ L F, RXA wr B x f p s t L F ∧ RG B w wr)) (fun s' _ => 3 - (intOf s').toNat)
 case atStart => exact ⟨0, by omega, rfl, HE1⟩
 case round =>
  obtain ⟨k, hk, rfl, HR⟩ := hrel;clear HE1;obtain ⟨L, F, hX, hG⟩ := HR.out;have c0 := hX.c0
  by_cases hlt : k < 3
  ·have hl : decide ((k : Int) < 3) = true := decide_eq_true (by omega)
   obtain ⟨v, hv⟩ := hX.fds;have hO := Fd.ropen_at B f v L F 1 conF wr hv hX.rl hX.inv hX.Bw;have HXo : Hid (RXA wr B x f p s t L F ∧ RG B w wr) := ⟨hX, hG⟩;generalize Fd.openA F 1 = oa at hO;generalize Fd.openE F 1 = oe at hO;clear hX hG hv HR
   go_wp2_with fail
   refine hO.mono ?_;rintro e w2 ⟨rfl, ⟨v', L', hv', hl'⟩, hu⟩
   have HE2 : Hid (∃ L F, RXA w2 B x f p s t L F ∧ RG B w w2) := by
    obtain ⟨hX, hG⟩ := HXo.out;exact ⟨L', _, ⟨hu.other _ _ _ _ hX.head (by decide) (by decide), ⟨v', hv'⟩, hl', hX.inv.openT _ _, hX.tB, Nat.le_trans hX.Bw hu.size⟩, hG.trans (RG.of_ru hu (Nat.le_refl _))⟩
   clear hO hv' hl' hu c0 HXo;go_wp2;go_roundw
   case rel => exact ⟨k + 1, by omega, by go_num, HE2⟩
   case measure => simp [intOf]; omega
  ·obtain rfl : k = 3 := by omega
   have HG := hid hG;clear hX hG HR;go_wp2;go_ret;exact ⟨rfl, HG.out⟩
end Go.Proofs.YtinaeifpoljfoaaGreatDoor
