import Derived.WalkKit
import Derived.WalkSpells
import Derived.WalkLawsBesides
import Derived.OrdersHeld
import Derived.Deep.RegionHeld3
set_option linter.all false
set_option maxRecDepth 100000
set_option maxHeartbeats 16000000
namespace Go.Proofs.YtinaeifpoljfoaaGreatDoor
open Go.RowKit
def zrow (k : Nat) : Array Value := Array.replicate k (.int .u64 0)
def urow (vs : List Int) : Array Value := (vs.map (Value.int .u64)).toArray
theorem urow_size (vs : List Int) : (urow vs).size = vs.length := by simp [urow]
theorem zrow_urow (k : Nat) : zrow k = urow (List.replicate k 0) := by
 simp [zrow, urow]
theorem made_flat (z : Array Value) (m k : Nat) (x : Value) (hz : z = Array.replicate m x) (hm : 0 < m) : madeCells z k = Array.replicate k x := by
 subst hz
 apply Array.ext
 ·simp [madeCells]
 ·intro j h1 h2
  have : j % m < m := Nat.mod_lt _ hm;simp [madeCells, this]
theorem run_make_flat {P : Program} (t e : TypeId) (z x : Value) (m bytes : Nat) (ht : P.underlying t = some (.slice e)) (hinfo : (P.info? e).map (fun i => (i.zero, i.size, i.bytes)) = some (some z, m, bytes))
  (hz : z.cells = Array.replicate m x) (hm : 0 < m) (kl kc : IntKind) (n : Nat) (hb : bytes * n ≤ 281474976710656) (h63 : n ≤ 9223372036854775807) (w : World) :
  (Instr.makeSlice t (.int kl (n : Int)) (.int kc (n : Int))).run P w = .ok (.slice (some ⟨w.heap.size, 0, none⟩) n n) (w.alloc (.cells (Array.replicate (n * m) x) e)) := by
 obtain ⟨i, hi, hzz⟩ := Option.map_eq_some_iff.1 hinfo;simp only [Prod.mk.injEq] at hzz;obtain ⟨h1, h2, h3⟩ := hzz
 have hb' : (i.bytes : Int) * (n : Int) ≤ 281474976710656 := by
  have h : ((i.bytes * n : Nat) : Int) ≤ 281474976710656 := by rw [h3]; omega
  rwa [Int.natCast_mul] at h
 have hr := run_make (P := P) w t e i z ht hi h1 kl kc n n (by omega) (by omega) hb' (by omega);simp only [Int.toNat_natCast] at hr;rw [hr, h2, made_flat _ m _ x hz hm]
structure Upd (g : Nat) (w w' : World) : Prop where
 os : w'.os = w.os
 tape : w'.tape = w.tape
 output : w'.output = w.output
 size : w.heap.size ≤ w'.heap.size
 block : ∀ k, k < w.heap.size → k ≠ g → w'.heap[k]? = w.heap[k]?
theorem Upd.refl (g : Nat) (w : World) : Upd g w w := ⟨rfl, rfl, rfl, Nat.le_refl _, fun _ _ _ => rfl⟩
theorem Upd.trans {g : Nat} {a b c : World} (h : Upd g a b) (k : Upd g b c) : Upd g a c :=
 ⟨k.os.trans h.os, k.tape.trans h.tape, k.output.trans h.output, Nat.le_trans h.size k.size, fun i hi hg => (k.block i (Nat.lt_of_lt_of_le hi h.size) hg).trans (h.block i hi hg)⟩
theorem Upd.setRow (g : Nat) (w : World) (cs : Array Value) : Upd g w (w.setRow g cs) :=
 ⟨rfl, rfl, rfl, by simp, fun k _ hg => setRow_other w g k cs hg⟩
theorem Upd.setCell (g o : Nat) (w : World) (v : Value) : Upd g w (w.setCell ⟨g, o, none⟩ v) :=
 ⟨rfl, rfl, rfl, by simp [World.setCell], fun k _ hg => Below.heap_setCell _ _ _ _ hg⟩
theorem Upd.alloc (g : Nat) (w : World) (o : Obj) : Upd g w (w.alloc o) :=
 ⟨rfl, rfl, rfl, by simp, fun k hk _ => Below.heap_alloc _ _ _ hk⟩
theorem Upd.drew (g : Nat) (w : World) : Upd g w w.drew := ⟨rfl, rfl, rfl, Nat.le_refl _, fun _ _ _ => rfl⟩
theorem Upd.of_below {g : Nat} {w w' : World} (h : Below w.heap.size w w') : Upd g w w' := ⟨h.os, h.tape, h.output, h.size, fun k hk _ => h.block k hk⟩
theorem Upd.below {g B : Nat} {w w' : World} (h : Upd g w w') (hB : B ≤ g) (hs : B ≤ w.heap.size) : Below B w w' :=
 ⟨h.os, h.tape, h.output, h.size, fun k hk => h.block k (by omega) (by omega)⟩
structure UpdP (P : Nat → Prop) (w w' : World) : Prop where
 os : w'.os = w.os
 tape : w'.tape = w.tape
 output : w'.output = w.output
 size : w.heap.size ≤ w'.heap.size
 block : ∀ k, k < w.heap.size → ¬ P k → w'.heap[k]? = w.heap[k]?
theorem UpdP.refl (P : Nat → Prop) (w : World) : UpdP P w w := ⟨rfl, rfl, rfl, Nat.le_refl _, fun _ _ _ => rfl⟩
theorem UpdP.trans {P : Nat → Prop} {a b c : World} (h : UpdP P a b) (k : UpdP P b c) : UpdP P a c :=
 ⟨k.os.trans h.os, k.tape.trans h.tape, k.output.trans h.output, Nat.le_trans h.size k.size, fun i hi hg => (k.block i (Nat.lt_of_lt_of_le hi h.size) hg).trans (h.block i hi hg)⟩
theorem UpdP.mono {P Q : Nat → Prop} {a b : World} (h : UpdP P a b) (hq : ∀ k, P k → Q k) : UpdP Q a b :=
 ⟨h.os, h.tape, h.output, h.size, fun i hi hg => h.block i hi (fun x => hg (hq i x))⟩
theorem Upd.p {g : Nat} {a b : World} (h : Upd g a b) (P : Nat → Prop) (hp : P g) : UpdP P a b :=
 ⟨h.os, h.tape, h.output, h.size, fun i hi hg => h.block i hi (fun e => hg (by rw [e]; exact hp))⟩
theorem UpdP.of_below {P : Nat → Prop} {w w' : World} (h : Below w.heap.size w w') : UpdP P w w' := ⟨h.os, h.tape, h.output, h.size, fun k hk _ => h.block k hk⟩
theorem UpdP.below {P : Nat → Prop} {B : Nat} {w w' : World} (h : UpdP P w w') (hB : ∀ k, P k → B ≤ k) (hs : B ≤ w.heap.size) : Below B w w' :=
 ⟨h.os, h.tape, h.output, h.size, fun k hk => h.block k (by omega) (fun hp => by have := hB k hp; omega)⟩
theorem cell_of_heap {w : World} {g i : Nat} {cs : Array Value} {t : TypeId} {fr : Nat × Nat} (h : w.heap[g]? = some (.cells cs t fr)) : w.cell? ⟨g, i, none⟩ = cs[i]? := by
 simp [World.cell?, h]
theorem frozen_of_heap {w : World} {g i : Nat} {cs : Array Value} {t : TypeId} (h : w.heap[g]? = some (.cells cs t (0, 0))) : w.frozen? ⟨g, i, none⟩ = false := by
 simp [World.frozen?, h]
theorem heap_alloc_new (w : World) (o : Obj) : (w.alloc o).heap[w.heap.size]? = some o := by
 show (w.heap.push o)[w.heap.size]? = _
 simp
theorem setRow_alloc_new (w : World) (a b : Array Value) (t : TypeId) : (w.alloc (.cells a t)).setRow w.heap.size b = w.alloc (.cells b t) := by
 have h : ((w.heap.push (.cells a t)).modify w.heap.size fun
     | .cells _ elem frozen => .cells b elem frozen
     | o => o) = w.heap.push (.cells b t) := by
  apply Array.ext
  ·simp
  ·intro i h1 h2
   simp only [Array.getElem_modify, Array.getElem_push]
   by_cases hi : i < w.heap.size
   ·rw [if_neg (by omega)]; simp [hi]
   ·have : w.heap.size = i := by simp at h2; omega
    simp [this]
 show World.mk _ _ _ _ _ = World.mk _ _ _ _ _
 congr 1
theorem cell_lt {w : World} {a : Addr} {v : Value} (h : w.cell? a = some v) : a.block < w.heap.size := by
 rcases Nat.lt_or_ge a.block w.heap.size with hl | hl
 ·exact hl
 ·have hn : w.heap[a.block]? = none := by simp [hl]
  simp [World.cell?, hn] at h
theorem lt_of_heap {w : World} {g : Nat} {o : Obj} (h : w.heap[g]? = some o) : g < w.heap.size := (Array.getElem?_eq_some_iff.1 h).1
/-- Operations that are taken first, by their numbers. -/
theorem hid {p : Prop} (h : p) : Hid p := h
theorem blk2 (w : World) (r1 : Array Value) (t1 : TypeId) (r2 : Array Value) (t2 : TypeId) : ∃ A B, A = w.alloc (.cells r1 t1) ∧ B = A.alloc (.cells r2 t2) ∧ Below w.heap.size w B ∧ B.heap[w.heap.size]? = some (.cells r1 t1) ∧ B.heap[w.heap.size + 1]? = some (.cells r2 t2) :=
 ⟨_, _, rfl, rfl, ((Below.refl _ _).alloc (Nat.le_refl _) _).trans (((Below.refl _ _).alloc (Nat.le_refl _) _).mono (by simp)), (((Below.refl _ _).alloc (Nat.le_refl _) _ : Below (w.alloc (.cells r1 t1)).heap.size (w.alloc (.cells r1 t1)) _).block _ (by simp)).trans (heap_alloc_new _ _), by
  have h := heap_alloc_new (w.alloc (.cells r1 t1)) (.cells r2 t2)
  rw [show (w.alloc (.cells r1 t1)).heap.size = w.heap.size + 1 by simp] at h
  exact h⟩
theorem blk3 (w : World) (r1 : Array Value) (t1 : TypeId) (r2 : Array Value) (t2 : TypeId) (r3 : Array Value) (t3 : TypeId) : ∃ A B C, A = w.alloc (.cells r1 t1) ∧ B = A.alloc (.cells r2 t2) ∧ C = B.alloc (.cells r3 t3) ∧ Below w.heap.size w C ∧ C.heap[w.heap.size]? = some (.cells r1 t1) ∧ C.heap[w.heap.size + 1]? = some (.cells r2 t2) ∧ C.heap[w.heap.size + 1 + 1]? = some (.cells r3 t3) := by
 obtain ⟨A, B, h1, h2, h3, h4, h5⟩ := blk2 w r1 t1 r2 t2
 have hs : B.heap.size = w.heap.size + 1 + 1 := by rw [h2, h1]; simp
 have hb : Below B.heap.size B (B.alloc (.cells r3 t3)) := (Below.refl _ _).alloc (Nat.le_refl _) _
 refine ⟨A, B, _, h1, h2, rfl, h3.trans (hb.mono h3.size), (hb.block _ (by omega)).trans h4, (hb.block _ (by omega)).trans h5, ?_⟩
 have h := heap_alloc_new B (.cells r3 t3)
 rw [hs] at h
 exact h
def Tkz (l : List Nat) (G : Prop) : Prop := G
theorem tkz (l : List Nat) {G : Prop} (h : Tkz l G) : G := h
theorem tky {P : Program} {md : Region.Mode} {ops : Array Oper} {Q : Exit → Act → World → Prop} {S : World → Prop} {l : List Nat} {i : Nat} {oi : Oper} {v : Value} {fuel : Nat} {listed : Array Bool} {a : Act} {w : World} (hi : ops[i]? = some oi)
  (hs : Region.noSelect ops = true) (hf : Region.free md ops listed i = true) (hr : (Region.ready md ops listed).contains i = true)
  (hQ : ∀ c a w, Q (.panic c) (a.put oi.dst v) w → Q (.panic c) a w) (hy : YieldsIf P ops S oi v a) (hS : S w)
  (h : Tkz l (wpAnyH P md ops Q S fuel (listed.setIfInBounds i true) (a.put oi.dst v) w)) : Tkz (i :: l) (wpAnyH P md ops Q S (fuel + 1) listed a w) := wpAnyH_take hi hs hf hr hQ hy hS h
theorem tkw {G : Prop} (h : G) : Tkz [] G := h
theorem lq.{u} : (type_of% @List.getElem_toArray.{u}) ∧ (type_of% @List.getElem_cons_zero.{u}) ∧ (type_of% @List.getElem_cons_succ.{u}) ∧ (type_of% @List.setIfInBounds_toArray.{u}) ∧ (type_of% @List.set_cons_zero.{u}) ∧ (type_of% @List.set_cons_succ.{u}) := ⟨@List.getElem_toArray, @List.getElem_cons_zero, @List.getElem_cons_succ, @List.setIfInBounds_toArray, @List.set_cons_zero, @List.set_cons_succ⟩
theorem tkq {P : Program} {md : Region.Mode} {ops : Array Oper} {Q : Exit → Act → World → Prop} {S : World → Prop} {l : List Nat} {i : Nat} {oi : Oper} {v : Value} {fuel : Nat} {listed : Array Bool} {a : Act} {w : World} (hi : ops[i]? = some oi) (hy : YieldsIf P ops S oi v a)
 (h : Tkz l (wpAnyH P md ops Q S fuel (listed.setIfInBounds i true) (a.put oi.dst v) w)) (hs : Region.noSelect ops = true := by kernel_rfl) (hf : Region.free md ops listed i = true := by kernel_rfl) (hr : (Region.ready md ops listed).contains i = true := by kernel_rfl)
 (hQ : ∀ c a w, Q (.panic c) (a.put oi.dst v) w → Q (.panic c) a w := by exact fun _ _ _ h => h) (hS : S w := by assumption) : Tkz (i :: l) (wpAnyH P md ops Q S (fuel + 1) listed a w) := tky hi hs hf hr hQ hy hS h
theorem tkv {P : Program} {md : Region.Mode} {ops : Array Oper} {Q : Exit → Act → World → Prop} {S : World → Prop} (i : Nat) {oi : Oper} (v : Value) {fuel : Nat} {listed : Array Bool} {a : Act} {w : World} (hi : ops[i]? = some oi) (hy : YieldsIf P ops S oi v a)
 (h : wpAnyH P md ops Q S fuel (listed.setIfInBounds i true) (a.put oi.dst v) w) (hs : Region.noSelect ops = true := by kernel_rfl) (hf : Region.free md ops listed i = true := by kernel_rfl) (hr : (Region.ready md ops listed).contains i = true := by kernel_rfl)
 (hQ : ∀ c a w, Q (.panic c) (a.put oi.dst v) w → Q (.panic c) a w := by exact fun _ _ _ h => h) (hS : S w := by assumption) : wpAnyH P md ops Q S (fuel + 1) listed a w := wpAnyH_take hi hs hf hr hQ hy hS h
theorem rdy {P : Program} {md : Region.Mode} {ops : Array Oper} {Q : Exit → Act → World → Prop} {S : World → Prop} (i : Nat) {o : Oper} {fuel : Nat} {listed : Array Bool} {a : Act} {w : World} (ho : ops[i]? = some o)
 (h : ∀ K' : Act → World → Prop, Shut (∀ a w, S w → (S w → wpAnyH P md ops Q S fuel (listed.setIfInBounds i true) a w) → K' a w) → if Region.wanted o (yielded ops a.tmps) = true then Oper.wp P o a w K' Q else K' (a.put o.dst undef) w)
 (hr : Region.ready md ops listed = [i] := by kernel_rfl) : wpAnyH P md ops Q S (fuel + 1) listed a w := wpAnyH_ready hr (by simp) (AllReadyH.cons ho h AllReadyH.nil)
end Go.Proofs.YtinaeifpoljfoaaGreatDoor
