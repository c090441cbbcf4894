/- Plain laws of the model that name no program: a made row of equal cells, clear and copy over a block of integers, and the relation 'all blocks but one are as they were'. -/
import Derived.WalkKit
import Derived.WalkSpells
import Derived.WalkLawsBesides
set_option linter.all false
namespace Go.Proofs.YtnlhedpfhgoncabGreatDoor
open Go.RowKit
/-- A row of so many zeros. -/
def zrow (k : Nat) : Array Value := Array.replicate k (.int .u64 0)
/-- A row of numbers. -/
def urow (vs : List Int) : Array Value := (vs.map (Value.int .u64)).toArray
theorem urow_size (vs : List Int) : (urow vs).size = vs.length := by simp [urow]
theorem zrow_urow (k : Nat) : zrow k = urow (List.replicate k 0) := by
  simp [zrow, urow]
theorem made_flat (z : Array Value) (m k : Nat) (x : Value) (hz : z = Array.replicate m x) (hm : 0 < m) : madeCells z k = Array.replicate k x := by
  subst hz
  apply Array.ext
  · simp [madeCells]
  · intro j h1 h2
    have : j % m < m := Nat.mod_lt _ hm
    simp [madeCells, this]
theorem run_make_flat {P : Program} (t e : TypeId) (z x : Value) (m bytes : Nat) (ht : P.underlying t = some (.slice e)) (hinfo : (P.info? e).map (fun i => (i.zero, i.size, i.bytes)) = some (some z, m, bytes))
    (hz : z.cells = Array.replicate m x) (hm : 0 < m) (kl kc : IntKind) (n : Nat) (hb : bytes * n ≤ 281474976710656) (h63 : n ≤ 9223372036854775807) (w : World) :
    (Instr.makeSlice t (.int kl (n : Int)) (.int kc (n : Int))).run P w = .ok (.slice (some ⟨w.heap.size, 0, none⟩) n n) (w.alloc (.cells (Array.replicate (n * m) x) e)) := by
  obtain ⟨i, hi, hzz⟩ := Option.map_eq_some_iff.1 hinfo
  simp only [Prod.mk.injEq] at hzz
  obtain ⟨h1, h2, h3⟩ := hzz
  have hb' : (i.bytes : Int) * (n : Int) ≤ 281474976710656 := by
    have h : ((i.bytes * n : Nat) : Int) ≤ 281474976710656 := by rw [h3]; omega
    rwa [Int.natCast_mul] at h
  have hr := run_make (P := P) w t e i z ht hi h1 kl kc n n (by omega) (by omega) hb' (by omega)
  simp only [Int.toNat_natCast] at hr
  rw [hr, h2, made_flat _ m _ x hz hm]
/-- All blocks that were there are as they were, but for block g; the streams are as they were. -/
structure Upd (g : Nat) (w w' : World) : Prop where
  os : w'.os = w.os
  tape : w'.tape = w.tape
  output : w'.output = w.output
  size : w.heap.size ≤ w'.heap.size
  block : ∀ k, k < w.heap.size → k ≠ g → w'.heap[k]? = w.heap[k]?
theorem Upd.refl (g : Nat) (w : World) : Upd g w w := ⟨rfl, rfl, rfl, Nat.le_refl _, fun _ _ _ => rfl⟩
theorem Upd.trans {g : Nat} {a b c : World} (h : Upd g a b) (k : Upd g b c) : Upd g a c :=
  ⟨k.os.trans h.os, k.tape.trans h.tape, k.output.trans h.output, Nat.le_trans h.size k.size, fun i hi hg => (k.block i (Nat.lt_of_lt_of_le hi h.size) hg).trans (h.block i hi hg)⟩
theorem Upd.setRow (g : Nat) (w : World) (cs : Array Value) : Upd g w (w.setRow g cs) :=
  ⟨rfl, rfl, rfl, by simp, fun k _ hg => setRow_other w g k cs hg⟩
theorem Upd.setCell (g o : Nat) (w : World) (v : Value) : Upd g w (w.setCell ⟨g, o, none⟩ v) :=
  ⟨rfl, rfl, rfl, by simp [World.setCell], fun k _ hg => Below.heap_setCell _ _ _ _ hg⟩
theorem Upd.drew (g : Nat) (w : World) : Upd g w w.drew := ⟨rfl, rfl, rfl, Nat.le_refl _, fun _ _ _ => rfl⟩
theorem Upd.of_below {g : Nat} {w w' : World} (h : Below w.heap.size w w') : Upd g w w' := ⟨h.os, h.tape, h.output, h.size, fun k hk _ => h.block k hk⟩
theorem Upd.below {g B : Nat} {w w' : World} (h : Upd g w w') (hB : B ≤ g) (hs : B ≤ w.heap.size) : Below B w w' :=
  ⟨h.os, h.tape, h.output, h.size, fun k hk => h.block k (by omega) (by omega)⟩
/-- All blocks that were there are as they were, but for those that P names; the streams are as they were. -/
structure UpdP (P : Nat → Prop) (w w' : World) : Prop where
  os : w'.os = w.os
  tape : w'.tape = w.tape
  output : w'.output = w.output
  size : w.heap.size ≤ w'.heap.size
  block : ∀ k, k < w.heap.size → ¬ P k → w'.heap[k]? = w.heap[k]?
theorem UpdP.refl (P : Nat → Prop) (w : World) : UpdP P w w := ⟨rfl, rfl, rfl, Nat.le_refl _, fun _ _ _ => rfl⟩
theorem UpdP.trans {P : Nat → Prop} {a b c : World} (h : UpdP P a b) (k : UpdP P b c) : UpdP P a c :=
  ⟨k.os.trans h.os, k.tape.trans h.tape, k.output.trans h.output, Nat.le_trans h.size k.size, fun i hi hg => (k.block i (Nat.lt_of_lt_of_le hi h.size) hg).trans (h.block i hi hg)⟩
theorem UpdP.mono {P Q : Nat → Prop} {a b : World} (h : UpdP P a b) (hq : ∀ k, P k → Q k) : UpdP Q a b :=
  ⟨h.os, h.tape, h.output, h.size, fun i hi hg => h.block i hi (fun x => hg (hq i x))⟩
theorem Upd.p {g : Nat} {a b : World} (h : Upd g a b) (P : Nat → Prop) (hp : P g) : UpdP P a b :=
  ⟨h.os, h.tape, h.output, h.size, fun i hi hg => h.block i hi (fun e => hg (by rw [e]; exact hp))⟩
theorem UpdP.of_below {P : Nat → Prop} {w w' : World} (h : Below w.heap.size w w') : UpdP P w w' := ⟨h.os, h.tape, h.output, h.size, fun k hk _ => h.block k hk⟩
theorem UpdP.below {P : Nat → Prop} {B : Nat} {w w' : World} (h : UpdP P w w') (hB : ∀ k, P k → B ≤ k) (hs : B ≤ w.heap.size) : Below B w w' :=
  ⟨h.os, h.tape, h.output, h.size, fun k hk => h.block k (by omega) (fun hp => by have := hB k hp; omega)⟩
theorem cell_of_heap {w : World} {g i : Nat} {cs : Array Value} {t : TypeId} {fr : Nat × Nat} (h : w.heap[g]? = some (.cells cs t fr)) : w.cell? ⟨g, i, none⟩ = cs[i]? := by
  simp [World.cell?, h]
theorem frozen_of_heap {w : World} {g i : Nat} {cs : Array Value} {t : TypeId} (h : w.heap[g]? = some (.cells cs t (0, 0))) : w.frozen? ⟨g, i, none⟩ = false := by
  simp [World.frozen?, h]
theorem heap_alloc_new (w : World) (o : Obj) : (w.alloc o).heap[w.heap.size]? = some o := by
  show (w.heap.push o)[w.heap.size]? = _
  simp
theorem setRow_alloc_new (w : World) (a b : Array Value) (t : TypeId) : (w.alloc (.cells a t)).setRow w.heap.size b = w.alloc (.cells b t) := by
  have h : ((w.heap.push (.cells a t)).modify w.heap.size fun
      | .cells _ elem frozen => .cells b elem frozen
      | o => o) = w.heap.push (.cells b t) := by
    apply Array.ext
    · simp
    · intro i h1 h2
      simp only [Array.getElem_modify, Array.getElem_push]
      by_cases hi : i < w.heap.size
      · rw [if_neg (by omega)]; simp [hi]
      · have : w.heap.size = i := by simp at h2; omega
        simp [this]
  show World.mk _ _ _ _ _ = World.mk _ _ _ _ _
  congr 1
theorem cell_lt {w : World} {a : Addr} {v : Value} (h : w.cell? a = some v) : a.block < w.heap.size := by
  rcases Nat.lt_or_ge a.block w.heap.size with hl | hl
  · exact hl
  · have hn : w.heap[a.block]? = none := by simp [hl]
    simp [World.cell?, hn] at h
theorem lt_of_heap {w : World} {g : Nat} {o : Obj} (h : w.heap[g]? = some o) : g < w.heap.size := (Array.getElem?_eq_some_iff.1 h).1
end Go.Proofs.YtnlhedpfhgoncabGreatDoor
