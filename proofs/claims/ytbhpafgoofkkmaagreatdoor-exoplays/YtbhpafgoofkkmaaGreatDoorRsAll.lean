import Derived.Test.YtbhpafgoofkkmaaGreatDoorRxHI
import Derived.Test.YtbhpafgoofkkmaaGreatDoorXoSees
import Derived.Test.YtbhpafgoofkkmaaGreatDoorXoT
import Derived.Deep.RegionHeld3
import Derived.Deep.DeepCutAuto
import Derived.Deep.CutBlock
set_option linter.all false
namespace Go.Proofs.YtbhpafgoofkkmaaGreatDoor
open Go.RowKit
def slotL (T : Ca.Tab) (e : Int) : Nat → List Int
 | 0 => []
 | k + 1 => slotL T e k ++ (if (Ca.getT T e (k + 1 : Nat)).is = true then [((k + 1 : Nat) : Int)] else [])
theorem slotL_len (T : Ca.Tab) (e : Int) : ∀ k, (slotL T e k).length ≤ k
 | 0 => Nat.le_refl _
 | k + 1 => by
  have := slotL_len T e k
  unfold slotL
  rw [List.length_append]
  split <;> simp <;> omega
theorem slotL_no {T : Ca.Tab} {e : Int} {k : Nat} (h : (Ca.getT T e (k + 1 : Nat)).is = false) : slotL T e (k + 1) = slotL T e k := by
 show slotL T e k ++ _ = _
 rw [if_neg (by rw [h]; decide), List.append_nil]
theorem slotL_yes {T : Ca.Tab} {e : Int} {k : Nat} (h : (Ca.getT T e (k + 1 : Nat)).is = true) : slotL T e (k + 1) = slotL T e k ++ [((k + 1 : Nat) : Int)] := by
 show slotL T e k ++ _ = _
 rw [if_pos h]
theorem slotL_mem {T : Ca.Tab} {e : Int} {x : Int} : ∀ {k : Nat}, x ∈ slotL T e k → ∃ s : Nat, x = (s : Int) ∧ 1 ≤ s ∧ s ≤ k ∧ (Ca.getT T e x).is = true
 | 0, h => by cases h
 | k + 1, h => by
  unfold slotL at h
  rcases List.mem_append.1 h with h | h
  ·obtain ⟨s, h1, h2, h3, h4⟩ := slotL_mem h
   exact ⟨s, h1, h2, by omega, h4⟩
  ·split at h
   ·rename_i hi
    rw [List.mem_singleton] at h
    subst h
    exact ⟨k + 1, rfl, by omega, by omega, hi⟩
   ·cases h
theorem take_flat {l : List Int} (g : Int → List Int) {i : Nat} {x : Int} (h : l[i]? = some x) : (l.take (i + 1)).flatMap g = (l.take i).flatMap g ++ g x := by
 rw [List.take_add_one, h]
 simp
theorem flat_len {l : List Int} {g : Int → List Int} {c : Nat} (h : ∀ x ∈ l, (g x).length ≤ c) : ∀ i, ((l.take i).flatMap g).length ≤ c * i
 | 0 => by simp
 | i + 1 => by
  have h1 := flat_len h (l := l) i
  rw [Nat.mul_add]
  cases hx : l[i]? with
  | none =>
   have : l.take (i + 1) = l.take i := by
    rw [List.take_add_one, hx]
    simp
   rw [this]
   omega
  | some x =>
   rw [take_flat g hx, List.length_append]
   have := h x (List.mem_of_getElem? hx)
   omega
def gF (n : Nat) (T : Ca.Tab) (vs : List Int) (e x : Int) : List Int := [x, (Ca.getT T e x).id, (Ca.getT T e x).rights] ++ frmW n vs (Ca.getT T e x).id
def gX (l : Xd.Lines) (ds : List Int) (C : Ca.Tab) (e x : Int) : List Int := [x, (Ca.getT C e x).id, (Ca.getT C e x).len, (Ca.getT C e x).rights] ++ extW l ds (Ca.getT C e x).id.toNat (Ca.getT C e x).len.toNat
theorem seesF_flat (n : Nat) (T : Ca.Tab) (vs : List Int) (e : Int) : ∀ k, seesF n T vs e k = (slotL T e k).flatMap (gF n T vs e)
 | 0 => rfl
 | k + 1 => by
  have ih := seesF_flat n T vs e k
  cases h : (Ca.getT T e (k + 1 : Nat)).is with
  | false => rw [seesF_no h, slotL_no h, ih]
  | true =>
   rw [seesF_yes h, slotL_yes h, List.flatMap_append, ih, List.append_assoc]
   simp [gF]
theorem seesX_flat (l : Xd.Lines) (ds : List Int) (C : Ca.Tab) (e : Int) : ∀ k, seesX l ds C e k = (slotL C e k).flatMap (gX l ds C e)
 | 0 => rfl
 | k + 1 => by
  have ih := seesX_flat l ds C e k
  cases h : (Ca.getT C e (k + 1 : Nat)).is with
  | false => rw [seesX_no h, slotL_no h, ih]
  | true =>
   rw [seesX_yes h, slotL_yes h, List.flatMap_append, ih, List.append_assoc]
   simp [gX]
theorem gF_len (n : Nat) (T : Ca.Tab) (vs : List Int) (e x : Int) : (gF n T vs e x).length ≤ 35 := by
 have := frmW_len n vs (Ca.getT T e x).id
 simp [gF]
 omega
theorem gX_len {n : Nat} {l : Xd.Lines} {ds : List Int} {C : Ca.Tab} (h : Xd.LInv n l) (hv : ds.length = n * 32) (hC : Xd.XInv C n) {e x : Int} (hi : (Ca.getT C e x).is = true) : (gX l ds C e x).length ≤ 4 + 32 * n := by
 obtain ⟨_, h1, h2, h3, _⟩ := hC.get hi
 have := extW_len h hv (Ca.getT C e x).id.toNat (Ca.getT C e x).len.toNat (by omega)
 simp [gX]
 omega
theorem wrap_word {x : Int} (h0 : 0 ≤ x) (h1 : x < 18446744073709551616) : IntKind.u64.wrap x = x := by
 simp [IntKind.wrap, IntKind.bits, IntKind.signed]
 omega
def IOW (w : World) (B : Nat) (v : Value) (xs : List Int) : Prop := w.ownsRow B 3 1 v xs.length (En.ivs xs)
theorem IOW.below {w w' : World} {B : Nat} {v : Value} {xs : List Int} (h : IOW w B v xs) (hb : Below w.heap.size w w') : IOW w' B v xs := ownsRow_below h hb
theorem IOW.grown {w w' : World} {B B' : Nat} {v u : Value} {xs ys : List Int} (h : IOW w B v xs) (hu : OW w B' u ys) (hg : w.grownBy w' u.ownBlock) : IOW w' B v xs := by
 refine Ip.ownsRow_at h (fun g hgv => ?_)
 obtain ⟨cs, hcs⟩ := Ip.own_type h hgv
 refine hg.block g (lt_of_heap hcs) (fun e => ?_)
 obtain ⟨cs', hcs'⟩ := Ip.own_type hu e.symm
 rw [hcs] at hcs'
 simp only [Option.some.injEq, Obj.cells.injEq] at hcs'
 exact absurd hcs'.2.1 (by decide)
theorem IOW.blk {w : World} {B : Nat} {a : Option Addr} {n c : Nat} {xs : List Int} (h : IOW w B (.slice a n c) xs) {j : Nat} {x : Int} (hx : xs[j]? = some x) : ∃ g cur, a = some ⟨g, 0, none⟩ ∧ w.heap[g]? = some (.cells cur 3) ∧ cur[j]? = some (.int .i64 x) := by
 have hj : j < xs.length := (List.getElem?_eq_some_iff.1 hx).1
 rcases h.2 with ⟨_, e2⟩ | ⟨g, cap, cur, e, _, hh, _, _, _, ht⟩
 ·omega
 ·simp only [Value.slice.injEq] at e
  refine ⟨g, cur, e.1, hh, ?_⟩
  have h1 : (En.ivs xs)[j]? = some (.int .i64 x) := by simp [En.ivs, hx]
  rw [← ht, List.getElem?_take_of_lt (by omega)] at h1
  simpa using h1
theorem IOW.len {w : World} {B : Nat} {a : Option Addr} {n c : Nat} {xs : List Int} (h : IOW w B (.slice a n c) xs) : n = xs.length := by
 rcases h.2 with ⟨e, e2⟩ | ⟨g, cap, cur, e, _⟩
 ·simp only [Value.slice.injEq] at e
  omega
 ·simp only [Value.slice.injEq] at e
  exact e.2.1
theorem IOW.shape {w : World} {B : Nat} {v : Value} {xs : List Int} (h : IOW w B v xs) : ∃ a n c, v = .slice a n c := by
 rcases h.2 with ⟨e, _⟩ | ⟨g, cap, cur, e, _⟩
 ·exact ⟨_, _, _, e⟩
 ·exact ⟨_, _, _, e⟩
set_option maxHeartbeats 1000000 in
set_option maxRecDepth 100000 in
theorem slots_at {w : World} {M c : Nat} {sv : Value} {L : List Ca.Ce} {last : Int} {T : Ca.Tab} (h : Ca.RefAt M w c sv L last) (hr : Ca.Rel T L last) (hl : L.length ≤ 1000) (e : Int) :
  Calls Tryz.prog 41 #[ptr c, .int .i64 e] w fun x w' => ∃ v, x = .returned v ∧ IOW w' w.heap.size v (slotL T e 64) ∧ Below w.heap.size w w' := by
 obtain ⟨i0, hi0, hzz⟩ := Option.map_eq_some_iff.1 En.intInfo
 simp only [Prod.mk.injEq] at hzz
 obtain ⟨hz0, hz1, hz2⟩ := hzz
 have HH : Hid _ := h
 have HR : Hid (Ca.Rel T L last) := hr
 clear h hr
 go_enter Tryz.func41, Tryz.ntmps41
 go_wp2
 go_loopw [5, 6] (fun s i wr => ∃ (k : Nat) (v : Value), k ≤ 64 ∧ i = .int .i64 ((k : Int) + 1) ∧ v = s ∧ wr.ownsRow w.heap.size 3 1 v (slotL T e k).length (En.ivs (slotL T e k)) ∧ Below w.heap.size w wr) (fun _ i _ => 65 - (intOf i).toNat)
 case atStart => exact ⟨0, _, by omega, rfl, rfl, World.ownsRow_nil _ _ _ _, Below.refl _ _⟩
 case round =>
  obtain ⟨k, v, hk, rfl, rfl, hown, hb⟩ := hrel
  by_cases hlt : k < 64
  ·have ha := Ca.find_at M c sv L last e ((k : Int) + 1) wr (HH.out.below hb) hl
   have hg := (HR.out.get e ((k : Int) + 1)).2
   have hle := slotL_len T e k
   have h1 := hb.size
   cases hf : (Ca.getT T e ((k : Int) + 1)).is with
   | false =>
    rw [hf] at hg
    have HF : Hid (slotL T e (k + 1) = slotL T e k) := slotL_no hf
    have hd : decide (0 ≤ Ca.rfindI L e ((k : Int) + 1)) = false := hg.symm
    clear hf hg
    generalize Ca.rfindI L e ((k : Int) + 1) = r at *
    go_wp2_with (go_at_call 106; refine ha.mono ?_; rintro e w1 ⟨rfl, hw1⟩; rw [hw1]; clear hw1 w1)
    go_roundw
    case rel =>
     refine ⟨k + 1, _, by omega, by go_num, rfl, ?_, hb⟩
     rw [HF.out]
     exact hown
    case measure => simp [intOf]; omega
   | true =>
    rw [hf] at hg
    have HF : Hid (slotL T e (k + 1) = slotL T e k ++ [(k : Int) + 1]) := slotL_yes hf
    have hd : decide (0 ≤ Ca.rfindI L e ((k : Int) + 1)) = true := hg.symm
    clear hf hg
    generalize Ca.rfindI L e ((k : Int) + 1) = r at *
    go_wp2_with fail
    refine ha.mono ?_
    rintro e w1 ⟨rfl, hw1⟩
    rw [hw1]
    clear ha hw1 w1
    go_wp2_with (first
      | (at_builtin; refine wpList_append_lies _ rfl _ _ _ rfl w.heap.size 3 i0 _ 1 8 Tryz.underlying46 hi0 hz0 hz1 hz2 rfl (by omega) v _ _ rfl (hown.alloc _) ⟨wr.heap.size, 0, none⟩ 1 1 [.int .i64 ((k : Int) + 1)] rfl rfl (World.news_of_block (cs := #[.int .i64 ((k : Int) + 1)]) (t := 3) (fr := (0, 0)) (heap_alloc_new _ _)) (by simp [Value.oneCell']) (by omega) (by unfold maxLen; omega) (by omega) (by simp; omega) _ rfl ?_; intro gg cap w2 hown2 hgrow hat hlt2)
      | go_in)
    go_roundw
    case rel =>
     refine ⟨k + 1, _, by omega, by go_num, rfl, ?_, (hb.alloc (by omega) _).trans (below_grown hgrow (by simp; omega) (ownsRow_low hown))⟩
     rw [HF.out]
     simpa [En.ivs] using hown2
    case measure => simp [intOf]; omega
  ·obtain rfl : k = 64 := by omega
   go_wp2
   go_ret
   exact ⟨_, rfl, hown, hb⟩
end Go.Proofs.YtbhpafgoofkkmaaGreatDoor
namespace Go.Proofs.YtbhpafgoofkkmaaGreatDoor
open Go.RowKit
theorem ow_new (w : World) (x : Int) : OW (w.alloc (.cells #[.int .u64 x] 42)) w.heap.size (.slice (some ⟨w.heap.size, 0, none⟩) 1 1) [x] :=
 ⟨rfl, Or.inr ⟨w.heap.size, 1, #[.int .u64 x], rfl, Nat.le_refl _, heap_alloc_new _ _, Nat.le_refl _, by unfold maxLen; omega, rfl, rfl⟩⟩
theorem rdv_block {w : World} {g n : Nat} {cs : List Int} (h : w.heap[g]? = some (.cells (urow cs) 42)) (hn : n = cs.length) : RdV w (.slice (some ⟨g, 0, none⟩) n n) cs := by
 subst hn
 refine ⟨_, _, rfl, Nat.le_refl _, fun j x hj => ⟨g, 0, rfl, ?_⟩⟩
 rw [cell_of_heap h, Nat.zero_add]
 simp [urow, hj]
def RdC (w : World) (v : Value) (ws : List Int) : Prop := ∃ a c, v = .slice a ws.length c ∧ ∀ (j : Nat) (x : Int), ws[j]? = some x → ∃ g off, a = some ⟨g, off, none⟩ ∧ w.cell? ⟨g, off + j, none⟩ = some (.int .u64 x)
theorem RdV.c {w : World} {v : Value} {ws : List Int} (h : RdV w v ws) : RdC w v ws := by
 obtain ⟨a, c, e, _, hr⟩ := h
 exact ⟨a, c, e, hr⟩
theorem grow_c {w : World} {B : Nat} {v u : Value} {xs ys : List Int} (h : OW w B v xs) (hu : RdC w u ys) (hl : (xs.length + ys.length) * 8 ≤ 140737488355328) (hB : B ≤ w.heap.size) :
  ∃ a' n' c' w', (∀ ty, (Builtin.append_ #[27, 27] ty #[v, u]).run Tryz.prog w = .ok (.slice a' n' c') w') ∧ OW w' B (.slice a' n' c') (xs ++ ys) ∧ Below B w w' ∧ w.grownBy w' v.ownBlock := by
 obtain ⟨a, c, rfl, hr⟩ := hu
 obtain ⟨a', c', w', r⟩ := grow_wordsR h hr hl hB
 exact ⟨a', _, c', w', r⟩
section
variable {w : World} {X : Nat} {Y : RxL} {k : Nat} {S : XS}
theorem RefX.cells (h : RefX w X Y k S) : w.cell? ⟨X, 0, none⟩ = some (ptr Y.J.p0) ∧ w.cell? ⟨X, 1, none⟩ = some (ptr Y.J.p1) ∧ w.cell? ⟨X, 2, none⟩ = some (ptr Y.J.p2) ∧ w.cell? ⟨Y.J.p0, 0, none⟩ = some (ptr Y.QM.bx) ∧ w.cell? ⟨Y.J.p0, 1, none⟩ = some (ptr Y.QM.c) ∧ w.cell? ⟨Y.J.p1, 1, none⟩ = some (ptr Y.QD.c) := by
 obtain ⟨L1, l1, a1, _⟩ := h.mem
 obtain ⟨L2, l2, m2, b1, _⟩ := h.disk
 obtain ⟨v3, L3, c1, _⟩ := h.ipc
 refine ⟨?_, ?_, ?_, a1.x0, a1.x1, b1.x1⟩ <;> (rw [cell_of_heap c1.head]; rfl)
theorem x_getM (h : RefX w X Y k S) (hk : k ≤ 900) (e s : Int) :
  Calls Tryz.prog 42 #[ptr Y.QM.c, .int .i64 e, .int .i64 s] w fun x w' => x = .returned (.tuple #[.agg (Ca.cpRow (Ca.getT S.T e s)), .bool (Ca.getT S.T e s).is]) ∧ Below w.heap.size w w' := by
 obtain ⟨L1, l1, a1, a2, _, a4, _⟩ := h.mem
 obtain ⟨sv, hc⟩ := a1.caps
 obtain ⟨q1, q2⟩ := a2.get e s
 rw [q2, q1]
 exact Ca.rget_at _ _ _ _ _ e s w hc (by omega)
theorem x_getD (h : RefX w X Y k S) (hk : k ≤ 900) (e s : Int) :
  Calls Tryz.prog 42 #[ptr Y.QD.c, .int .i64 e, .int .i64 s] w fun x w' => x = .returned (.tuple #[.agg (Ca.cpRow (Ca.getT S.C e s)), .bool (Ca.getT S.C e s).is]) ∧ Below w.heap.size w w' := by
 obtain ⟨L1, l1, m1, a1, a2, _, a4, _⟩ := h.disk
 obtain ⟨sv, hc⟩ := a1.caps
 obtain ⟨q1, q2⟩ := a2.get e s
 rw [q2, q1]
 exact Ca.rget_at _ _ _ _ _ e s w hc (by omega)
theorem x_slotsM (h : RefX w X Y k S) (hk : k ≤ 900) (e : Int) :
  Calls Tryz.prog 41 #[ptr Y.QM.c, .int .i64 e] w fun x w' => ∃ v, x = .returned v ∧ IOW w' w.heap.size v (slotL S.T e 64) ∧ Below w.heap.size w w' := by
 obtain ⟨L1, l1, a1, a2, _, a4, _⟩ := h.mem
 obtain ⟨sv, hc⟩ := a1.caps
 exact slots_at hc a2 (by omega) e
theorem x_slotsD (h : RefX w X Y k S) (hk : k ≤ 900) (e : Int) :
  Calls Tryz.prog 41 #[ptr Y.QD.c, .int .i64 e] w fun x w' => ∃ v, x = .returned v ∧ IOW w' w.heap.size v (slotL S.C e 64) ∧ Below w.heap.size w w' := by
 obtain ⟨L1, l1, m1, a1, a2, _, a4, _⟩ := h.disk
 obtain ⟨sv, hc⟩ := a1.caps
 exact slots_at hc a2 (by omega) e
theorem x_pageM (h : RefX w X Y k S) {f : Int} (h0 : 0 ≤ f) (h1 : f < S.n) :
  Calls Tryz.prog 43 #[ptr Y.QM.bx, .int .i64 f] w fun x w' => ∃ a n c, x = .returned (.slice a n c) ∧ RdC w (.slice a n c) (frmW S.n S.vs f) ∧ w' = w := by
 obtain ⟨L1, l1, a1, _⟩ := h.mem
 refine (Me.rpage_at _ _ _ _ _ _ f w a1.mem h0 h1).mono ?_
 rintro x w' ⟨rfl, rfl⟩
 have e1 : frmW S.n S.vs f = Me.frameOf S.vs f.toNat := by unfold frmW; rw [if_pos ⟨h0, h1⟩]
 refine ⟨_, _, _, rfl, ?_, rfl⟩
 rw [e1]
 exact (rdv_block (a1.mem.row f.toNat (by omega)) (Me.frameOf_length S.vs f.toNat S.n a1.mem.len (by omega)).symm).c
theorem x_page (h : RefX w X Y k S) (e p : Int) :
  Calls Tryz.prog 44 #[ptr Y.J.p0, .int .i64 e, .int .i64 p] w fun x w' => x = .returned (.tuple #[Mu.pv ((Ex.kpageV S.F e p).getD (0, false)), .bool (Ex.kpageV S.F e p).isSome]) ∧ Below w.heap.size w w' := by
 obtain ⟨L1, l1, a1, _⟩ := h.mem
 exact Ex.rkpage_at a1 e p
theorem x_look (h : RefX w X Y k S) (hd : S.d ≤ 1000) (b : Nat) (hb : b < S.d) :
  Calls Tryz.prog 45 #[ptr Y.J.p1, .int .i64 b] w fun x w' => ∃ a n c, x = .returned (.slice a n c) ∧ RdC w (.slice a n c) (Xd.lookW S.l S.ds b) ∧ w' = w := by
 obtain ⟨L1, l1, m1, a1, _⟩ := h.disk
 obtain ⟨_, _, hdd, _⟩ := a1.disk
 have hl := Xd.lookW_len a1.linv hdd.len hb
 refine (Xd.rxlook_at a1 hd b hb).mono ?_
 rintro x w' ⟨r, c, rfl, hr, rfl⟩
 exact ⟨_, _, _, rfl, ⟨_, c, by rw [hl], fun j y hy => ⟨r, 0, rfl, hr j y hy⟩⟩, rfl⟩
theorem x_waits (h : RefX w X Y k S) (hk : k ≤ 900) (e : Int) :
  Calls Tryz.prog 46 #[.pointer (some ⟨X, 3, none⟩), .int .i64 e] w fun x w' => x = .returned (.int .i64 ((Ip.qat S.Q e).length : Nat)) ∧ Below w.heap.size w w' := by
 obtain ⟨v3, L3, c1, c2, c3⟩ := h.ipc
 rw [← c2.rlen]
 exact Ip.rwaiting_at X v3 L3 e w c1 (by omega)
end
end Go.Proofs.YtbhpafgoofkkmaaGreatDoor
namespace Go.Proofs.YtbhpafgoofkkmaaGreatDoor
open Go.RowKit
section
variable {w : World} {X : Nat} {Y : RxL} {k : Nat} {S : XS}
set_option maxRecDepth 100000 in
set_option maxHeartbeats 8000000 in
theorem rsees_at (h : RefX w X Y k S) (o : OkR S) (hd : S.d = 16) (hk : k ≤ 900) (e : Int) (hq : (Ip.qat S.Q e).length ≤ 4) :
  Calls Tryz.prog 13 #[ptr X, .int .i64 e] w fun x w' => ∃ v, x = .returned v ∧ URow w.heap.size w' v (seesV S e) ∧ Below w.heap.size w w' := by
 have hIs := x_is h e
 obtain ⟨x0, x1, x2, p0, p1, d1⟩ := h.cells
 have HX : Hid (RefX w X Y k S) := h
 have HOk : Hid (OkR S) := o
 have HK : Hid (k ≤ 900) := hk
 have HD : Hid (S.d = 16) := hd
 have HQ : Hid ((Ip.qat S.Q e).length ≤ 4) := hq
 clear h o hk hd hq
 cases hi : En.isB S.E e with
 | false =>
  have HV : Hid (seesV S e = []) := by show _ = _; unfold seesV; rw [hi]; rfl
  rw [hi] at hIs
  clear hi
  go_enter Tryz.func13, Tryz.ntmps13
  go_wp2_with (go_at_call 31; refine hIs.mono ?_; rintro x w1 ⟨rfl, hw⟩; rw [hw]; clear hw w1)
  go_ret
  exact ⟨_, rfl, by rw [HV.out]; exact URow.nil _ _, Below.refl _ _⟩
 | true =>
  have HV : Hid (seesV S e = catL [[1], seesF S.n S.T S.vs e 64, seesP S.F e 4, seesX S.l S.ds S.C e 64, [((Ip.qat S.Q e).length : Int)]]) := by show _ = _; unfold seesV; rw [hi]; rfl
  rw [hi] at hIs
  clear hi
  obtain ⟨W1, hW1⟩ : ∃ W, W = w.alloc (.cells #[.int .u64 1] 42) := ⟨_, rfl⟩
  have hbW : Below w.heap.size w W1 := by rw [hW1]; exact Ca.below_alloc _ _
  have HO1 : Hid (OW W1 w.heap.size (.slice (some ⟨w.heap.size, 0, none⟩) 1 1) [1]) := by rw [hW1]; exact ow_new w 1
  have hsl := x_slotsM (HX.out.below hbW) HK.out e
  have HbW : Hid _ := hbW
  have HW1 : Hid _ := hW1
  have y0 := En.cell_alloc_old x0 (.cells #[.int .u64 1] 42)
  have y1 := En.cell_alloc_old p1 (.cells #[.int .u64 1] 42)
  clear hbW hW1
  go_enter Tryz.func13, Tryz.ntmps13
  go_wp2_with fail
  refine hIs.mono ?_
  rintro x w1 ⟨rfl, hw⟩
  rw [hw]
  clear hw w1 hIs
  go_wp2_with fail
  rw [← HW1.out]
  clear HW1
  refine hsl.mono ?_
  rintro x w2 ⟨v6, rfl, hI2, hb2⟩
  obtain ⟨a6, n6, c6, rfl⟩ := hI2.shape
  obtain ⟨sl, hslq⟩ : ∃ l, l = slotL S.T e 64 := ⟨_, rfl⟩
  rw [← hslq] at hI2
  have HSl : Hid (sl = slotL S.T e 64) := hslq
  have HN6 : Hid (n6 = sl.length) := hI2.len
  have HL6 : Hid (n6 ≤ 64) := by show _ ≤ _; rw [HN6.out, hslq]; exact slotL_len _ _ _
  have hB2 : Below w.heap.size w w2 := HbW.out.trans (hb2.mono HbW.out.size)
  have HO : Hid (OW w2 w.heap.size (.slice (some ⟨w.heap.size, 0, none⟩) 1 1) ([1] ++ (sl.take 0).flatMap (gF S.n S.T S.vs e))) := by
   have := OW.below HO1.out hb2
   show OW _ _ _ _
   simpa using this
  have HI : Hid (IOW w2 w.heap.size (.slice a6 n6 c6) sl) := by
   refine ⟨hI2.1, ?_⟩
   rcases hI2.2 with q | ⟨g, cap, cur, q1, q2, q3⟩
   ·exact Or.inl q
   ·exact Or.inr ⟨g, cap, cur, q1, Nat.le_trans HbW.out.size q2, q3⟩
  have HB : Hid (Below w.heap.size w w2) := hB2
  clear hsl hslq hI2 hb2 hB2 HbW HO1 x0 x1 x2 p0 p1 d1 y0 y1
  go_wp2
  go_loopw [5, 7] (fun v s wr => ∃ (j : Nat), j ≤ n6 ∧ s = .int .i64 j ∧ OW wr w.heap.size v ([1] ++ (sl.take j).flatMap (gF S.n S.T S.vs e)) ∧ IOW wr w.heap.size (.slice a6 n6 c6) sl ∧ Below w.heap.size w wr) (fun _ s _ => n6 - (intOf s).toNat)
  case atStart => exact ⟨0, by omega, rfl, HO.out, HI.out, HB.out⟩
  case round =>
   clear HO HI HB
   obtain ⟨j, hj, rfl, hO, hI, hB⟩ := hrel
   by_cases hlt : j < n6
   ·have hjl : j < sl.length := by rw [← HN6.out]; exact hlt
    obtain ⟨s', hs⟩ : ∃ s, sl[j]? = some s := ⟨_, List.getElem?_eq_getElem hjl⟩
    obtain ⟨s, hse, s1, s2, hi⟩ := slotL_mem (T := S.T) (e := e) (k := 64) (by rw [← HSl.out]; exact List.mem_of_getElem? hs)
    subst hse
    obtain ⟨g6, cur6, rfl, hh6, hj6⟩ := IOW.blk hI hs
    have hRr : RefX wr X Y k S := HX.out.below hB
    obtain ⟨x0, -, -, p0, p1, -⟩ := hRr.cells
    have HG : Hid (∀ W : World, Below w.heap.size w W → Calls Tryz.prog 42 #[ptr Y.QM.c, .int .i64 e, .int .i64 s] W fun x w' => x = .returned (.tuple #[.agg (Ca.cpRow (Ca.getT S.T e s)), .bool (Ca.getT S.T e s).is]) ∧ Below W.heap.size W w') := fun W hW => x_getM (HX.out.below hW) HK.out e (s : Int)
    obtain ⟨-, i0, i1, -, r0, r1⟩ := HOk.out.k.get hi
    have HY : Hid ((sl.take (j + 1)).flatMap (gF S.n S.T S.vs e) = (sl.take j).flatMap (gF S.n S.T S.vs e) ++ ([(s : Int), (Ca.getT S.T e s).id, (Ca.getT S.T e s).rights] ++ frmW S.n S.vs (Ca.getT S.T e s).id)) := take_flat _ hs
    have HSn : Hid (([1] ++ (sl.take j).flatMap (gF S.n S.T S.vs e)).length ≤ 2300) := by
     show _ ≤ _
     have h1 := flat_len (l := sl) (fun x _ => gF_len S.n S.T S.vs e x) j
     have h2 := HL6.out
     simp only [List.length_append, List.length_cons, List.length_nil]
     omega
    have hn2 := HOk.out.n2
    have hc6 : wr.cell? ⟨g6, j, none⟩ = some (.int .i64 (s : Int)) := by rw [cell_of_heap hh6]; exact hj6
    have HO : Hid (OW wr w.heap.size _ _) := hO
    have HI : Hid (IOW wr w.heap.size _ sl) := hI
    have HB : Hid (Below w.heap.size w wr) := hB
    have HH6 : Hid _ := hh6
    have HJ6 : Hid _ := hj6
    clear hO hI hB hs hi hRr hh6 hj6 hjl
    generalize Ca.getT S.T e s = x at *
    obtain ⟨kk, id, ln, rt⟩ := x
    dsimp only [Ca.cpRow] at *
    have hws := wrap_word (x := (s : Int)) (by omega) (by omega)
    have hwi := wrap_word (x := id) (by omega) (by omega)
    have hwt := wrap_word (x := rt) (by omega) (by omega)
    have HRg : Hid (0 ≤ id ∧ id < S.n) := ⟨i0, i1⟩
    clear i0 i1 r0 r1 hn2
    generalize hFq : (sl.take j).flatMap (gF S.n S.T S.vs e) = A at *
    have HFq : Hid _ := hFq
    clear hFq
    go_upto_region 8 with fail
    go_cut [8, 9] (fun px _ wc => ∃ XC, px = .pointer (some ⟨XC, 0, none⟩) ∧ wc.heap[XC]? = some (.cells #[.int .i64 kk, .int .i64 id, .int .i64 ln, .int .i64 rt] 97) ∧ Below wr.heap.size wr wc)
    case first =>
     have hdr : Below wr.heap.size wr wr.drew := (Below.refl _ _).drew
     refine wp_region_held_drew (S := fun w' => w'.cell? ⟨X, 0, none⟩ = some (ptr Y.J.p0) ∧ w'.cell? ⟨Y.J.p0, 1, none⟩ = some (ptr Y.QM.c) ∧ w'.cell? ⟨g6, j, none⟩ = some (.int .i64 (s : Int))) (by kernel_rfl) ⟨x0, p1, hc6⟩ (fun hHeld => ?_)
     refine tkz [0, 1, 2, 3, 4, 5, 6, 7, 8, 9, 10, 11] ?_
     iterate 12
      refine tky (v := ?_) rfl (by kernel_rfl) (by kernel_rfl) (by kernel_rfl) (fun _ _ _ h => h) (Or.inl ⟨by kernel_rfl, ?_⟩) (by assumption) ?_
      rotate_left
      ·(intro w hSw; (try dsimp only at hSw); go_simp) <;> with_reducible rfl
      (try simp only [Act.put, lqa, lqb, lqc, lqd, lqe, lqf])
     refine tkw ?_
     refine wpAnyH_ready (rs := [12, 16]) (by kernel_rfl) (by simp) ?_
     refine AllReadyH.cons rfl (fun K hK => ?_) (AllReadyH.cons rfl (fun K hK => ?_) AllReadyH.nil)
     ·go_simp
      refine Calls.mono (HG.out wr.drew (HB.out.trans (hdr.mono HB.out.size))) ?_
      rintro y w1 ⟨rfl, hb1⟩
      have hB1 : Below wr.heap.size wr w1 := hdr.trans hb1
      have y0 := (hB1.cell (cell_lt x0)).trans x0
      have y1 := (hB1.cell (cell_lt p1)).trans p1
      have y2 := (hB1.cell (cell_lt hc6)).trans hc6
      have HB1 : Hid _ := hB1
      clear hb1 hB1
      refine hK.out _ _ ⟨y0, y1, y2⟩ (fun hHeld => ?_)
      clear hK K
      (try simp only [Act.put, lqa, lqb, lqc, lqd, lqe, lqf])
      refine tkz [13, 14, 15] ?_
      iterate 3
       refine tky (v := ?_) rfl (by kernel_rfl) (by kernel_rfl) (by kernel_rfl) (fun _ _ _ h => h) (Or.inl ⟨by kernel_rfl, ?_⟩) (by assumption) ?_
       rotate_left
       ·(intro w hSw; (try dsimp only at hSw); go_simp) <;> with_reducible rfl
       (try simp only [Act.put, lqa, lqb, lqc, lqd, lqe, lqf])
      refine tkw ?_
      refine wpAnyH_ready (rs := [16]) (by kernel_rfl) (by simp) ?_
      refine AllReadyH.cons rfl (fun K hK => ?_) AllReadyH.nil
      go_simp
      refine hK.out _ _ ⟨En.cell_alloc_old y0 _, En.cell_alloc_old y1 _, En.cell_alloc_old y2 _⟩ (fun hHeld => ?_)
      clear hK K
      (try simp only [Act.put, lqa, lqb, lqc, lqd, lqe, lqf])
      refine wpAnyH_ready (rs := [17]) (by kernel_rfl) (by simp) ?_
      refine AllReadyH.cons rfl (fun K hK => ?_) AllReadyH.nil
      go_simp
      refine hK.out _ _ ⟨En.cell_alloc_old y0 _, En.cell_alloc_old y1 _, En.cell_alloc_old y2 _⟩ (fun hHeld => ?_)
      clear hK K
      (try simp only [Act.put, lqa, lqb, lqc, lqd, lqe, lqf])
      refine tkz [18] ?_
      iterate 1
       refine tky (v := ?_) rfl (by kernel_rfl) (by kernel_rfl) (by kernel_rfl) (fun _ _ _ h => h) (Or.inl ⟨by kernel_rfl, ?_⟩) (by assumption) ?_
       rotate_left
       ·(intro w hSw; (try dsimp only at hSw); go_simp) <;> with_reducible rfl
       (try simp only [Act.put, lqa, lqb, lqc, lqd, lqe, lqf])
      refine tkw ?_
      refine wpAnyH_done (by kernel_rfl) ?_ _
      clear y0 y1 y2 hHeld
      go_wp2_with fail
      go_meet
      case rel => exact ⟨_, rfl, heap_alloc_new _ _, HB1.out.alloc HB1.out.size _⟩
     ·obtain ⟨W, hW⟩ : ∃ W, W = (wr.alloc (.cells #[.int .i64 0, .int .i64 0, .int .i64 0, .int .i64 0] 97)).drew := ⟨_, rfl⟩
      have hbW : Below wr.heap.size wr W := by rw [hW]; exact (Ca.below_alloc _ _).drew
      have hhW : W.heap[wr.heap.size]? = some (.cells #[.int .i64 0, .int .i64 0, .int .i64 0, .int .i64 0] 97) := by rw [hW]; exact heap_alloc_new wr _
      have hsW : W.heap.size = wr.heap.size + 1 := by rw [hW]; exact World.size_alloc wr _
      go_simp
      rw [← hW]
      have y0 := (hbW.cell (cell_lt x0)).trans x0
      have y1 := (hbW.cell (cell_lt p1)).trans p1
      have y2 := (hbW.cell (cell_lt hc6)).trans hc6
      have HbW : Hid _ := hbW
      have HhW : Hid _ := hhW
      have HsW : Hid _ := hsW
      clear hbW hhW hsW hW
      refine hK.out _ _ ⟨y0, y1, y2⟩ (fun hHeld => ?_)
      clear hK K
      (try simp only [Act.put, lqa, lqb, lqc, lqd, lqe, lqf])
      refine wpAnyH_ready (rs := [12]) (by kernel_rfl) (by simp) ?_
      refine AllReadyH.cons rfl (fun K hK => ?_) AllReadyH.nil
      go_simp
      refine Calls.mono (HG.out W (HB.out.trans (HbW.out.mono HB.out.size))) ?_
      rintro y w1 ⟨rfl, hb1⟩
      have hB1 : Below wr.heap.size wr w1 := HbW.out.trans (hb1.mono (by have := HsW.out; omega))
      have hx1 : w1.heap[wr.heap.size]? = some (.cells #[.int .i64 0, .int .i64 0, .int .i64 0, .int .i64 0] 97) := (hb1.block _ (by have := HsW.out; omega)).trans HhW.out
      clear y0 y1 y2
      have y0 := (hB1.cell (cell_lt x0)).trans x0
      have y1 := (hB1.cell (cell_lt p1)).trans p1
      have y2 := (hB1.cell (cell_lt hc6)).trans hc6
      have z0 := cell_of_heap (i := 0) hx1
      have z1 := cell_of_heap (i := 1) hx1
      have z2 := cell_of_heap (i := 2) hx1
      have z3 := cell_of_heap (i := 3) hx1
      have zf := fun i => frozen_of_heap (i := i) hx1
      simp only [List.getElem?_toArray, List.getElem?_cons_zero, List.getElem?_cons_succ] at z0 z1 z2 z3
      have HB1 : Hid _ := hB1
      have HX1 : Hid _ := hx1
      clear hb1 hB1 hx1
      refine hK.out _ _ ⟨y0, y1, y2⟩ (fun hHeld => ?_)
      clear hK K
      (try simp only [Act.put, lqa, lqb, lqc, lqd, lqe, lqf])
      refine tkz [13, 14, 15] ?_
      iterate 3
       refine tky (v := ?_) rfl (by kernel_rfl) (by kernel_rfl) (by kernel_rfl) (fun _ _ _ h => h) (Or.inl ⟨by kernel_rfl, ?_⟩) (by assumption) ?_
       rotate_left
       ·(intro w hSw; (try dsimp only at hSw); go_simp) <;> with_reducible rfl
       (try simp only [Act.put, lqa, lqb, lqc, lqd, lqe, lqf])
      refine tkw ?_
      refine wpAnyH_ready (rs := [17]) (by kernel_rfl) (by simp) ?_
      refine AllReadyH.cons rfl (fun K hK => ?_) AllReadyH.nil
      go_simp
      obtain ⟨Z, hZ⟩ : ∃ Z, Z = ((((w1.setCell ⟨wr.heap.size, 0, none⟩ (.int .i64 kk)).setCell ⟨wr.heap.size, 1, none⟩ (.int .i64 id)).setCell ⟨wr.heap.size, 2, none⟩ (.int .i64 ln)).setCell ⟨wr.heap.size, 3, none⟩ (.int .i64 rt)) := ⟨_, rfl⟩
      have hZb : Below wr.heap.size wr Z := by rw [hZ]; exact (((HB1.out.setCell (Nat.le_refl _) _).setCell (Nat.le_refl _) _).setCell (Nat.le_refl _) _).setCell (Nat.le_refl _) _
      have hZx : Z.heap[wr.heap.size]? = some (.cells #[.int .i64 kk, .int .i64 id, .int .i64 ln, .int .i64 rt] 97) := by rw [hZ]; exact Xd.set4_heap HX1.out _ _ _ _
      rw [← hZ]
      clear hZ y0 y1 y2 z0 z1 z2 z3 zf
      have y0 := (hZb.cell (cell_lt x0)).trans x0
      have y1 := (hZb.cell (cell_lt p1)).trans p1
      have y2 := (hZb.cell (cell_lt hc6)).trans hc6
      have HF : Hid _ := hZb
      have HZ : Hid _ := hZx
      clear hZb hZx
      refine hK.out _ _ ⟨y0, y1, y2⟩ (fun hHeld => ?_)
      clear hK K
      (try simp only [Act.put, lqa, lqb, lqc, lqd, lqe, lqf])
      refine tkz [18] ?_
      iterate 1
       refine tky (v := ?_) rfl (by kernel_rfl) (by kernel_rfl) (by kernel_rfl) (fun _ _ _ h => h) (Or.inl ⟨by kernel_rfl, ?_⟩) (by assumption) ?_
       rotate_left
       ·(intro w hSw; (try dsimp only at hSw); go_simp) <;> with_reducible rfl
       (try simp only [Act.put, lqa, lqb, lqc, lqd, lqe, lqf])
      refine tkw ?_
      refine wpAnyH_done (by kernel_rfl) ?_ _
      clear y0 y1 y2 hHeld
      go_wp2_with fail
      go_meet
      case rel => exact ⟨_, rfl, HZ.out, HF.out⟩
    case rest =>
     clear x0 p0 p1 hc6 HG
     obtain ⟨XC, rfl, hC, hbc⟩ := hcut
     obtain ⟨av, nv, cv, rfl⟩ := OW.shape HO.out
     obtain ⟨W, hW⟩ : ∃ W, W = (wc.alloc (.cells #[.int .u64 (s : Int), .int .u64 id, .int .u64 rt] 42)).drew := ⟨_, rfl⟩
     have hbW : Below wc.heap.size wc W := by rw [hW]; exact (Ca.below_alloc _ _).drew
     have hhW : W.heap[wc.heap.size]? = some (.cells (urow [(s : Int), id, rt]) 42) := by rw [hW]; exact heap_alloc_new wc _
     have hbrW : Below wr.heap.size wr W := hbc.trans (hbW.mono hbc.size)
     have hOW := OW.below HO.out hbrW
     have hl0 := HSn.out
     obtain ⟨a4, n4, c4, w4, hrun4, hO4, hB4, hg4⟩ := grow_c hOW (rdv_block hhW rfl).c (by simp only [List.length_append, List.length_cons, List.length_nil] at hl0 ⊢; omega) (Nat.le_trans HB.out.size hbrW.size)
     have hCW := (hbW.block _ (lt_of_heap hC)).trans hC
     have hC4 := OW.other hOW hCW (by decide) hg4
     have h6W := (hbrW.block _ (lt_of_heap HH6.out)).trans HH6.out
     have h64 := OW.other hOW h6W (by decide) hg4
     have HI4 : Hid (IOW w4 w.heap.size _ sl) := IOW.grown (IOW.below HI.out hbrW) hOW hg4
     have HB4 : Hid (Below w.heap.size w w4) := (HB.out.trans (hbrW.mono HB.out.size)).trans hB4
     have HO4 : Hid (OW w4 w.heap.size (.slice a4 n4 c4) ([1] ++ A ++ [(s : Int), id, rt])) := hO4
     have HC4 : Hid _ := hC4
     have HRun4 : Hid (∀ ty, (Builtin.append_ #[27, 27] ty #[.slice av nv cv, .slice (some ⟨wc.heap.size, 0, none⟩) 3 3]).run Tryz.prog W = .ok (.slice a4 n4 c4) w4) := hrun4
     have h6c := (hbc.block _ (lt_of_heap HH6.out)).trans HH6.out
     have t6 : ∀ V : World, V.heap[g6]? = some (.cells cur6 3) → V.cell? ⟨g6, j, none⟩ = some (.int .i64 (s : Int)) := fun V hV => by rw [cell_of_heap hV]; exact HJ6.out
     have tC : ∀ V : World, V.heap[XC]? = some (.cells #[.int .i64 kk, .int .i64 id, .int .i64 ln, .int .i64 rt] 97) → V.cell? ⟨XC, 1, none⟩ = some (.int .i64 id) ∧ V.cell? ⟨XC, 2, none⟩ = some (.int .i64 ln) ∧ V.cell? ⟨XC, 3, none⟩ = some (.int .i64 rt) := fun V hV => by refine ⟨?_, ?_, ?_⟩ <;> (rw [cell_of_heap hV]; rfl)
     have u0 := t6 wc h6c
     obtain ⟨u1, u2, u3⟩ := tC wc hC
     have v0 := t6 W h6W
     obtain ⟨v1, v2, v3⟩ := tC W hCW
     have q0 := t6 w4 h64
     obtain ⟨q1, q2, q3⟩ := tC w4 hC4
     have HW : Hid _ := hW
     clear hC hbc hbW hhW hbrW hOW hl0 hrun4 hO4 hB4 hg4 hCW hC4 h6W h64 h6c t6 hW
     go_wp2_with fail
     refine wp_region_held_drew (S := fun w' => w'.cell? ⟨g6, j, none⟩ = some (.int .i64 (s : Int)) ∧ w'.cell? ⟨XC, 1, none⟩ = some (.int .i64 id) ∧ w'.cell? ⟨XC, 2, none⟩ = some (.int .i64 ln) ∧ w'.cell? ⟨XC, 3, none⟩ = some (.int .i64 rt)) (by kernel_rfl) ⟨u0, u1, u2, u3⟩ (fun hHeld => ?_)
     refine tkz [0, 1, 2, 3, 4, 5, 6, 7, 8, 9, 10, 11] ?_
     iterate 12
      refine tky (v := ?_) rfl (by kernel_rfl) (by kernel_rfl) (by kernel_rfl) (fun _ _ _ h => h) (Or.inl ⟨by kernel_rfl, ?_⟩) (by assumption) ?_
      rotate_left
      ·(intro w hSw; (try dsimp only at hSw); go_simp) <;> with_reducible rfl
      (try simp only [Act.put, lqa, lqb, lqc, lqd, lqe, lqf])
     refine tkw ?_
     refine wpAnyH_ready (rs := [12]) (by kernel_rfl) (by simp) ?_
     refine AllReadyH.cons rfl (fun K hK => ?_) AllReadyH.nil
     go_simp
     rw [← HW.out]
     clear HW
     refine hK.out _ _ ⟨v0, v1, v2, v3⟩ (fun hHeld => ?_)
     clear hK K
     (try simp only [Act.put, lqa, lqb, lqc, lqd, lqe, lqf])
     refine wpAnyH_ready (rs := [13]) (by kernel_rfl) (by simp) ?_
     refine AllReadyH.cons rfl (fun K hK => ?_) AllReadyH.nil
     refine Ip.step_append_eq rfl (.tmp 57) (.tmp 69) 27 rfl (.slice av nv cv) (.slice (some ⟨wc.heap.size, 0, none⟩) 3 3) (.slice a4 n4 c4) (by rfl) (by rfl) HRun4.out ?_
     refine hK.out _ _ ⟨q0, q1, q2, q3⟩ (fun hHeld => ?_)
     clear hK K
     (try simp only [Act.put, lqa, lqb, lqc, lqd, lqe, lqf])
     refine tkz [14] ?_
     iterate 1
      refine tky (v := ?_) rfl (by kernel_rfl) (by kernel_rfl) (by kernel_rfl) (fun _ _ _ h => h) (Or.inl ⟨by kernel_rfl, ?_⟩) (by assumption) ?_
      rotate_left
      ·(intro w hSw; (try dsimp only at hSw); go_simp) <;> with_reducible rfl
      (try simp only [Act.put, lqa, lqb, lqc, lqd, lqe, lqf])
     refine tkw ?_
     refine wpAnyH_done (by kernel_rfl) ?_ _
     clear hHeld u0 u1 u2 u3 v0 v1 v2 v3 q0 q1 q2 q3 HRun4 HO HI HB
     have hR4 := HX.out.below HB4.out
     obtain ⟨x0, -, -, p0, -, -⟩ := hR4.cells
     obtain ⟨u1, u2, u3⟩ := tC w4 HC4.out
     have hdr : Below w4.heap.size w4 w4.drew := (Below.refl _ _).drew
     have hpg := x_pageM (hR4.below hdr) HRg.out.1 HRg.out.2
     have HFl : Hid ((frmW S.n S.vs id).length ≤ 32) := frmW_len _ _ _
     clear hR4
     go_wp2_with fail
     refine wp_region_held_drew (S := fun w' => w'.cell? ⟨X, 0, none⟩ = some (ptr Y.J.p0) ∧ w'.cell? ⟨Y.J.p0, 0, none⟩ = some (ptr Y.QM.bx) ∧ w'.cell? ⟨XC, 1, none⟩ = some (.int .i64 id)) (by kernel_rfl) ⟨x0, p0, u1⟩ (fun hHeld => ?_)
     refine tkz [0, 1, 2, 3, 4, 5, 6, 7, 8, 9] ?_
     iterate 10
      refine tky (v := ?_) rfl (by kernel_rfl) (by kernel_rfl) (by kernel_rfl) (fun _ _ _ h => h) (Or.inl ⟨by kernel_rfl, ?_⟩) (by assumption) ?_
      rotate_left
      ·(intro w hSw; (try dsimp only at hSw); go_simp) <;> with_reducible rfl
      (try simp only [Act.put, lqa, lqb, lqc, lqd, lqe, lqf])
     refine tkw ?_
     refine wpAnyH_ready (rs := [10]) (by kernel_rfl) (by simp) ?_
     refine AllReadyH.cons rfl (fun K hK => ?_) AllReadyH.nil
     go_simp
     refine hpg.mono ?_
     rintro y w5 ⟨ap, np, cp, rfl, hrd, hw5⟩
     rw [hw5]
     clear hw5 w5
     have hOd := OW.below HO4.out hdr
     have hl1 := HSn.out
     obtain ⟨a5, n5, c5, w5, hrun5, hO5, hB5, hg5⟩ := grow_c hOd hrd (by have := HFl.out; simp only [List.length_append, List.length_cons, List.length_nil] at hl1 ⊢; omega) (Nat.le_trans HB4.out.size hdr.size)
     have HI5 : Hid (IOW w5 w.heap.size _ sl) := IOW.grown (IOW.below HI4.out hdr) hOd hg5
     have HB5 : Hid (Below w.heap.size w w5) := (HB4.out.trans (hdr.mono HB4.out.size)).trans hB5
     have HO5 : Hid (OW w5 w.heap.size (.slice a5 n5 c5) (([1] ++ A ++ [(s : Int), id, rt]) ++ frmW S.n S.vs id)) := hO5
     have HRun5 : Hid (∀ ty, (Builtin.append_ #[27, 27] ty #[.slice a4 n4 c4, .slice ap np cp]).run Tryz.prog w4.drew = .ok (.slice a5 n5 c5) w5) := hrun5
     obtain ⟨z0, -, -, z1, -, -⟩ := (HX.out.below HB5.out).cells
     obtain ⟨z2, -, -⟩ := tC w5 (OW.other hOd HC4.out (by decide) hg5)
     clear hpg hrd hOd hl1 hrun5 hO5 hB5 hg5 HI4 HB4 HO4
     refine hK.out _ _ ⟨x0, p0, u1⟩ (fun hHeld => ?_)
     clear hK K
     (try simp only [Act.put, lqa, lqb, lqc, lqd, lqe, lqf])
     refine wpAnyH_ready (rs := [11]) (by kernel_rfl) (by simp) ?_
     refine AllReadyH.cons rfl (fun K hK => ?_) AllReadyH.nil
     refine Ip.step_append_eq rfl (.tmp 71) (.tmp 81) 27 rfl (.slice a4 n4 c4) (.slice ap np cp) (.slice a5 n5 c5) (by rfl) (by rfl) HRun5.out ?_
     refine hK.out _ _ ⟨z0, z1, z2⟩ (fun hHeld => ?_)
     clear hK K
     (try simp only [Act.put, lqa, lqb, lqc, lqd, lqe, lqf])
     refine tkz [12] ?_
     iterate 1
      refine tky (v := ?_) rfl (by kernel_rfl) (by kernel_rfl) (by kernel_rfl) (fun _ _ _ h => h) (Or.inl ⟨by kernel_rfl, ?_⟩) (by assumption) ?_
      rotate_left
      ·(intro w hSw; (try dsimp only at hSw); go_simp) <;> with_reducible rfl
      (try simp only [Act.put, lqa, lqb, lqc, lqd, lqe, lqf])
     refine tkw ?_
     refine wpAnyH_done (by kernel_rfl) ?_ _
     have hn64 := HL6.out
     clear hHeld x0 p0 u1 u2 u3 z0 z1 z2 tC
     go_wp2
     go_roundw
     case rel =>
      refine ⟨j + 1, by omega, by go_num, ?_, HI5.out, HB5.out⟩
      rw [HY.out]
      have e1 : [1] ++ (A ++ ([(s : Int), id, rt] ++ frmW S.n S.vs id)) = ([1] ++ A ++ [(s : Int), id, rt]) ++ frmW S.n S.vs id := by simp
      rw [e1]
      exact HO5.out
     case measure => simp [intOf]; omega
   ·have hjn : j = n6 := by omega
    have gj : decide ((j : Int) < (n6 : Int)) = false := decide_eq_false (by omega)
    have gjn : decide (j < n6) = false := decide_eq_false hlt
    have htk : sl.take j = sl := by rw [hjn, HN6.out, List.take_length]
    rw [htk, HSl.out, ← seesF_flat] at hO
    have HO : Hid (OW wr w.heap.size _ ([1] ++ seesF S.n S.T S.vs e 64)) := hO
    clear htk hjn
    have HB : Hid (Below w.heap.size w wr) := hB
    clear hO hI hB HSl HL6 HN6
    obtain ⟨AF, hAF⟩ : ∃ A, A = [1] ++ seesF S.n S.T S.vs e 64 := ⟨_, rfl⟩
    rw [← hAF] at HO
    have HAF : Hid _ := hAF
    have HAl : Hid (AF.length ≤ 2300) := by
     show _ ≤ _
     have := seesF_len S.n S.T S.vs e 64
     rw [hAF]
     simp only [List.length_append, List.length_cons, List.length_nil]
     omega
    clear hAF
    go_wp2
    go_loopw [5, 10] (fun v s wr => ∃ (p : Nat), p ≤ 4 ∧ s = .int .i64 p ∧ OW wr w.heap.size v (AF ++ seesP S.F e p) ∧ Below w.heap.size w wr) (fun _ s _ => 4 - (intOf s).toNat)
    case atStart =>
     refine ⟨0, by omega, rfl, ?_, HB.out⟩
     show OW _ _ _ (AF ++ [])
     rw [List.append_nil]
     exact HO.out
    case round =>
     clear HO HB
     obtain ⟨p, hp, rfl, hO, hB⟩ := hrel
     by_cases hlt : p < 4
     ·have hRr : RefX wr X Y k S := HX.out.below hB
      obtain ⟨x0, -, -, -, -, -⟩ := hRr.cells
      have hpg := x_page hRr e (p : Int)
      have HO : Hid (OW wr w.heap.size _ _) := hO
      have HB : Hid (Below w.heap.size w wr) := hB
      have HSn : Hid ((AF ++ seesP S.F e p).length ≤ 2320) := by
       show _ ≤ _
       have h1 := seesP_len S.F e p
       have h2 := HAl.out
       simp only [List.length_append]
       omega
      have HIn : Hid (∀ x, Ex.kpageV S.F e p = some x → 0 ≤ x.1 ∧ x.1 < 1025) := by
       intro x hx
       unfold Ex.kpageV at hx
       split at hx
       ·rename_i hi
        have he : e.toNat < 12 := by
         obtain ⟨m, rfl, hm⟩ := Ex.isE_nat hi
         simpa using hm
        obtain ⟨_, _, a1, _⟩ := hRr.mem
        have h1 := a1.tbl.2 _ he _ _ hx
        have h2 := HOk.out.pg _ he _ _ hx
        have h3 := HOk.out.n2
        exact ⟨h1.2.2, by omega⟩
       ·cases hx
      clear hO hB hRr
      cases hi : Ex.kpageV S.F e p with
      | none =>
       rw [hi] at hpg
       have HN : Hid (seesP S.F e (p + 1) = seesP S.F e p) := seesP_no hi
       dsimp only [Option.getD_none, Option.isSome_none, Mu.pv] at hpg
       clear hi HIn
       go_wp2_with (go_at_call 44; refine hpg.mono ?_; rintro y w1 ⟨rfl, hb1⟩)
       go_roundw
       case rel => exact ⟨p + 1, by omega, by go_num, by rw [HN.out]; exact (OW.below HO.out hb1).below (Ca.below_alloc _ _), HB.out.trans ((hb1.trans ((Ca.below_alloc _ _).mono hb1.size)).mono HB.out.size)⟩
       case measure => simp [intOf]; omega
      | some x =>
       obtain ⟨f, wb⟩ := x
       rw [hi] at hpg
       have HY0 : Hid (seesP S.F e (p + 1) = seesP S.F e p ++ [(p : Int), f, oneB wb]) := seesP_yes hi
       have HRange : Hid (0 ≤ f ∧ f < 1025) := HIn.out _ hi
       dsimp only [Option.getD_some, Option.isSome_some, Mu.pv] at hpg
       clear hi HIn
       cases wb with
       | true =>
        have HY : Hid (seesP S.F e (p + 1) = seesP S.F e p ++ [(p : Int), f, 1]) := HY0.out
        clear HY0
        have hwf := wrap_word (x := f) HRange.out.1 (by have := HRange.out.2; omega)
        have hwp := wrap_word (x := (p : Int)) (by omega) (by omega)
        go_wp2_with fail
        refine hpg.mono ?_
        rintro y w1 ⟨rfl, hb1⟩
        obtain ⟨V, hV⟩ : ∃ V, V = (w1.alloc (.cells #[.int .i64 f, .bool true] 50)).alloc (.cells #[.int .u64 (p : Int), .int .u64 f, .int .u64 1] 42) := ⟨_, rfl⟩
        have hbV : Below wr.heap.size wr V := by rw [hV]; exact hb1.trans ((Ca.below_alloc2 _ _ _).mono hb1.size)
        have hhV : V.heap[w1.heap.size + 1]? = some (.cells (urow [(p : Int), f, 1]) 42) := by
         rw [hV, ← World.size_alloc w1 (.cells #[.int .i64 f, .bool true] 50)]
         exact heap_alloc_new _ _
        obtain ⟨av, nv, cv, rfl⟩ := OW.shape HO.out
        have hOV := OW.below HO.out hbV
        have hl0 := HSn.out
        obtain ⟨a4, n4, c4, w4, hrun4, hO4, hB4, hg4⟩ := grow_c hOV (rdv_block hhV rfl).c (by simp only [List.length_append, List.length_cons, List.length_nil] at hl0 ⊢; omega) (Nat.le_trans HB.out.size hbV.size)
        have HB4 : Hid (Below w.heap.size w w4) := (HB.out.trans (hbV.mono HB.out.size)).trans hB4
        have HO4 : Hid (OW w4 w.heap.size (.slice a4 n4 c4) ((AF ++ seesP S.F e p) ++ [(p : Int), f, 1])) := hO4
        rw [hV] at hrun4
        have HRun4 : Hid (∀ ty, (Builtin.append_ #[27, 27] ty #[.slice av nv cv, .slice (some ⟨w1.heap.size + 1, 0, none⟩) 3 3]).run Tryz.prog ((w1.alloc (.cells #[.int .i64 f, .bool true] 50)).alloc (.cells #[.int .u64 (p : Int), .int .u64 f, .int .u64 1] 42)) = .ok (.slice a4 n4 c4) w4) := hrun4
        clear hb1 hbV hhV hOV hl0 hO4 hB4 hg4 hpg HO HB hrun4 hV
        go_wp2_with (at_builtin; refine Ip.wpList_append_eq rfl _ _ _ rfl _ _ _ rfl rfl HRun4.out ?_)
        go_roundw
        case rel =>
         refine ⟨p + 1, by omega, by go_num, ?_, HB4.out⟩
         rw [HY.out, ← List.append_assoc]
         exact HO4.out
        case measure => simp [intOf]; omega
       | false =>
        have HY : Hid (seesP S.F e (p + 1) = seesP S.F e p ++ [(p : Int), f, 0]) := HY0.out
        clear HY0
        have hwf := wrap_word (x := f) HRange.out.1 (by have := HRange.out.2; omega)
        have hwp := wrap_word (x := (p : Int)) (by omega) (by omega)
        go_wp2_with fail
        refine hpg.mono ?_
        rintro y w1 ⟨rfl, hb1⟩
        obtain ⟨V, hV⟩ : ∃ V, V = (w1.alloc (.cells #[.int .i64 f, .bool false] 50)).alloc (.cells #[.int .u64 (p : Int), .int .u64 f, .int .u64 0] 42) := ⟨_, rfl⟩
        have hbV : Below wr.heap.size wr V := by rw [hV]; exact hb1.trans ((Ca.below_alloc2 _ _ _).mono hb1.size)
        have hhV : V.heap[w1.heap.size + 1]? = some (.cells (urow [(p : Int), f, 0]) 42) := by
         rw [hV, ← World.size_alloc w1 (.cells #[.int .i64 f, .bool false] 50)]
         exact heap_alloc_new _ _
        obtain ⟨av, nv, cv, rfl⟩ := OW.shape HO.out
        have hOV := OW.below HO.out hbV
        have hl0 := HSn.out
        obtain ⟨a4, n4, c4, w4, hrun4, hO4, hB4, hg4⟩ := grow_c hOV (rdv_block hhV rfl).c (by simp only [List.length_append, List.length_cons, List.length_nil] at hl0 ⊢; omega) (Nat.le_trans HB.out.size hbV.size)
        have HB4 : Hid (Below w.heap.size w w4) := (HB.out.trans (hbV.mono HB.out.size)).trans hB4
        have HO4 : Hid (OW w4 w.heap.size (.slice a4 n4 c4) ((AF ++ seesP S.F e p) ++ [(p : Int), f, 0])) := hO4
        rw [hV] at hrun4
        have HRun4 : Hid (∀ ty, (Builtin.append_ #[27, 27] ty #[.slice av nv cv, .slice (some ⟨w1.heap.size + 1, 0, none⟩) 3 3]).run Tryz.prog ((w1.alloc (.cells #[.int .i64 f, .bool false] 50)).alloc (.cells #[.int .u64 (p : Int), .int .u64 f, .int .u64 0] 42)) = .ok (.slice a4 n4 c4) w4) := hrun4
        clear hb1 hbV hhV hOV hl0 hO4 hB4 hg4 hpg HO HB hrun4 hV
        go_wp2_with (at_builtin; refine Ip.wpList_append_eq rfl _ _ _ rfl _ _ _ rfl rfl HRun4.out ?_)
        go_roundw
        case rel =>
         refine ⟨p + 1, by omega, by go_num, ?_, HB4.out⟩
         rw [HY.out, ← List.append_assoc]
         exact HO4.out
        case measure => simp [intOf]; omega
     ·have hp4 : p = 4 := by omega
      have gp : decide ((p : Int) < 4) = false := decide_eq_false (by omega)
      have gpn : decide (p < 4) = false := decide_eq_false hlt
      have hRr : RefX wr X Y k S := HX.out.below hB
      obtain ⟨-, x1, -, -, -, d1⟩ := hRr.cells
      have hsl := x_slotsD hRr HK.out e
      obtain ⟨AP, hAP⟩ : ∃ A, A = AF ++ seesP S.F e p := ⟨_, rfl⟩
      rw [← hAP] at hO
      have HAP : Hid (AP = AF ++ seesP S.F e 4) := by show _ = _; rw [hAP, hp4]
      have HAPl : Hid (AP.length ≤ 2320) := by
       show _ ≤ _
       have h1 := seesP_len S.F e p
       have h2 := HAl.out
       rw [hAP]
       simp only [List.length_append]
       omega
      have HO : Hid (OW wr w.heap.size _ AP) := hO
      have HB : Hid (Below w.heap.size w wr) := hB
      clear hO hB hRr hAP hp4
      go_wp2_with fail
      refine hsl.mono ?_
      rintro y w2 ⟨v6, rfl, hI2, hb2⟩
      obtain ⟨a7, n7, c7, rfl⟩ := hI2.shape
      obtain ⟨sl, hslq⟩ : ∃ l, l = slotL S.C e 64 := ⟨_, rfl⟩
      rw [← hslq] at hI2
      have HSl : Hid (sl = slotL S.C e 64) := hslq
      have HN6 : Hid (n7 = sl.length) := hI2.len
      have HL6 : Hid (n7 ≤ 64) := by show _ ≤ _; rw [HN6.out, hslq]; exact slotL_len _ _ _
      have HI2 : Hid (IOW w2 w.heap.size (.slice a7 n7 c7) sl) := by
       refine ⟨hI2.1, ?_⟩
       rcases hI2.2 with q | ⟨g, cap, cur, q1, q2, q3⟩
       ·exact Or.inl q
       ·exact Or.inr ⟨g, cap, cur, q1, Nat.le_trans HB.out.size q2, q3⟩
      have HB2 : Hid (Below w.heap.size w w2) := HB.out.trans (hb2.mono HB.out.size)
      have HO2 : Hid (OW w2 w.heap.size _ AP) := OW.below HO.out hb2
      clear hsl hslq hI2 hb2 x1 d1 HO HB
      go_wp2
      go_loopw [5, 14] (fun v s wr => ∃ (j : Nat), j ≤ n7 ∧ s = .int .i64 j ∧ OW wr w.heap.size v (AP ++ (sl.take j).flatMap (gX S.l S.ds S.C e)) ∧ IOW wr w.heap.size (.slice a7 n7 c7) sl ∧ Below w.heap.size w wr) (fun _ s _ => n7 - (intOf s).toNat)
      case atStart =>
       refine ⟨0, by omega, rfl, ?_, HI2.out, HB2.out⟩
       show OW _ _ _ (AP ++ [])
       rw [List.append_nil]
       exact HO2.out
      case round =>
       clear HO2 HI2 HB2
       obtain ⟨j, hj, rfl, hO, hI, hB⟩ := hrel
       by_cases hlt : j < n7
       ·have hjl : j < sl.length := by rw [← HN6.out]; exact hlt
        obtain ⟨s', hs⟩ : ∃ s, sl[j]? = some s := ⟨_, List.getElem?_eq_getElem hjl⟩
        obtain ⟨s, hse, s1, s2, hi⟩ := slotL_mem (T := S.C) (e := e) (k := 64) (by rw [← HSl.out]; exact List.mem_of_getElem? hs)
        subst hse
        obtain ⟨g6, cur6, rfl, hh6, hj6⟩ := IOW.blk hI hs
        have hRr : RefX wr X Y k S := HX.out.below hB
        obtain ⟨-, x0, -, -, -, p1⟩ := hRr.cells
        have HG : Hid (∀ W : World, Below w.heap.size w W → Calls Tryz.prog 42 #[ptr Y.QD.c, .int .i64 e, .int .i64 s] W fun x w' => x = .returned (.tuple #[.agg (Ca.cpRow (Ca.getT S.C e s)), .bool (Ca.getT S.C e s).is]) ∧ Below W.heap.size W w') := fun W hW => x_getD (HX.out.below hW) HK.out e (s : Int)
        obtain ⟨-, i0, i1, i2, r0, r1⟩ := HOk.out.x.get hi
        have HY : Hid ((sl.take (j + 1)).flatMap (gX S.l S.ds S.C e) = (sl.take j).flatMap (gX S.l S.ds S.C e) ++ ([(s : Int), (Ca.getT S.C e s).id, (Ca.getT S.C e s).len, (Ca.getT S.C e s).rights] ++ extW S.l S.ds (Ca.getT S.C e s).id.toNat (Ca.getT S.C e s).len.toNat)) := take_flat _ hs
        have HSn : Hid ((AP ++ (sl.take j).flatMap (gX S.l S.ds S.C e)).length ≤ 40000) := by
         show _ ≤ _
         obtain ⟨_, _, _, b1, _⟩ := hRr.disk
         obtain ⟨_, _, hdd, _⟩ := b1.disk
         have h1 := flat_len (l := sl) (g := gX S.l S.ds S.C e) (c := 4 + 32 * S.d) (fun x hx => by
           rw [HSl.out] at hx
           obtain ⟨_, _, _, _, hxi⟩ := slotL_mem hx
           exact gX_len b1.linv hdd.len HOk.out.x hxi) j
         have h2 := HL6.out
         have h3 := HAPl.out
         have h4 : (4 + 32 * S.d) * j ≤ 516 * 64 := by
          rw [HD.out]
          exact Nat.mul_le_mul (by omega) (by omega)
         simp only [List.length_append]
         omega
        have hc6 : wr.cell? ⟨g6, j, none⟩ = some (.int .i64 (s : Int)) := by rw [cell_of_heap hh6]; exact hj6
        have HO : Hid (OW wr w.heap.size _ _) := hO
        have HI : Hid (IOW wr w.heap.size _ sl) := hI
        have HB : Hid (Below w.heap.size w wr) := hB
        have HH6 : Hid _ := hh6
        have HJ6 : Hid _ := hj6
        have hd16 := HD.out
        clear hO hI hB hs hi hRr hh6 hj6 hjl
        generalize Ca.getT S.C e s = x at *
        obtain ⟨kk, id, ln, rt⟩ := x
        dsimp only [Ca.cpRow] at *
        have hws := wrap_word (x := (s : Int)) (by omega) (by omega)
        have hwi := wrap_word (x := id) (by omega) (by omega)
        have hwl := wrap_word (x := ln) (by omega) (by omega)
        have hwt := wrap_word (x := rt) (by omega) (by omega)
        have HRg : Hid (0 ≤ id ∧ 1 ≤ ln ∧ id + ln ≤ 16) := ⟨i0, i1, by omega⟩
        clear i0 i1 i2 r0 r1 hd16
        generalize hFq : (sl.take j).flatMap (gX S.l S.ds S.C e) = A at *
        have HFq : Hid _ := hFq
        clear hFq
        go_upto_region 24 with fail
        go_cut [15, 16] (fun px _ wc => ∃ XC, px = .pointer (some ⟨XC, 0, none⟩) ∧ wc.heap[XC]? = some (.cells #[.int .i64 kk, .int .i64 id, .int .i64 ln, .int .i64 rt] 97) ∧ Below wr.heap.size wr wc)
        case first =>
         have hdr : Below wr.heap.size wr wr.drew := (Below.refl _ _).drew
         refine wp_region_held_drew (S := fun w' => w'.cell? ⟨X, 1, none⟩ = some (ptr Y.J.p1) ∧ w'.cell? ⟨Y.J.p1, 1, none⟩ = some (ptr Y.QD.c) ∧ w'.cell? ⟨g6, j, none⟩ = some (.int .i64 (s : Int))) (by kernel_rfl) ⟨x0, p1, hc6⟩ (fun hHeld => ?_)
         refine tkz [0, 1, 2, 3, 4, 5, 6, 7, 8, 9, 10, 11] ?_
         iterate 12
          refine tky (v := ?_) rfl (by kernel_rfl) (by kernel_rfl) (by kernel_rfl) (fun _ _ _ h => h) (Or.inl ⟨by kernel_rfl, ?_⟩) (by assumption) ?_
          rotate_left
          ·(intro w hSw; (try dsimp only at hSw); go_simp) <;> with_reducible rfl
          (try simp only [Act.put, lqa, lqb, lqc, lqd, lqe, lqf])
         refine tkw ?_
         refine wpAnyH_ready (rs := [12, 16]) (by kernel_rfl) (by simp) ?_
         refine AllReadyH.cons rfl (fun K hK => ?_) (AllReadyH.cons rfl (fun K hK => ?_) AllReadyH.nil)
         ·go_simp
          refine Calls.mono (HG.out wr.drew (HB.out.trans (hdr.mono HB.out.size))) ?_
          rintro y w1 ⟨rfl, hb1⟩
          have hB1 : Below wr.heap.size wr w1 := hdr.trans hb1
          have y0 := (hB1.cell (cell_lt x0)).trans x0
          have y1 := (hB1.cell (cell_lt p1)).trans p1
          have y2 := (hB1.cell (cell_lt hc6)).trans hc6
          have HB1 : Hid _ := hB1
          clear hb1 hB1
          refine hK.out _ _ ⟨y0, y1, y2⟩ (fun hHeld => ?_)
          clear hK K
          (try simp only [Act.put, lqa, lqb, lqc, lqd, lqe, lqf])
          refine tkz [13, 14, 15] ?_
          iterate 3
           refine tky (v := ?_) rfl (by kernel_rfl) (by kernel_rfl) (by kernel_rfl) (fun _ _ _ h => h) (Or.inl ⟨by kernel_rfl, ?_⟩) (by assumption) ?_
           rotate_left
           ·(intro w hSw; (try dsimp only at hSw); go_simp) <;> with_reducible rfl
           (try simp only [Act.put, lqa, lqb, lqc, lqd, lqe, lqf])
          refine tkw ?_
          refine wpAnyH_ready (rs := [16]) (by kernel_rfl) (by simp) ?_
          refine AllReadyH.cons rfl (fun K hK => ?_) AllReadyH.nil
          go_simp
          refine hK.out _ _ ⟨En.cell_alloc_old y0 _, En.cell_alloc_old y1 _, En.cell_alloc_old y2 _⟩ (fun hHeld => ?_)
          clear hK K
          (try simp only [Act.put, lqa, lqb, lqc, lqd, lqe, lqf])
          refine wpAnyH_ready (rs := [17]) (by kernel_rfl) (by simp) ?_
          refine AllReadyH.cons rfl (fun K hK => ?_) AllReadyH.nil
          go_simp
          refine hK.out _ _ ⟨En.cell_alloc_old y0 _, En.cell_alloc_old y1 _, En.cell_alloc_old y2 _⟩ (fun hHeld => ?_)
          clear hK K
          (try simp only [Act.put, lqa, lqb, lqc, lqd, lqe, lqf])
          refine tkz [18] ?_
          iterate 1
           refine tky (v := ?_) rfl (by kernel_rfl) (by kernel_rfl) (by kernel_rfl) (fun _ _ _ h => h) (Or.inl ⟨by kernel_rfl, ?_⟩) (by assumption) ?_
           rotate_left
           ·(intro w hSw; (try dsimp only at hSw); go_simp) <;> with_reducible rfl
           (try simp only [Act.put, lqa, lqb, lqc, lqd, lqe, lqf])
          refine tkw ?_
          refine wpAnyH_done (by kernel_rfl) ?_ _
          clear y0 y1 y2 hHeld
          go_wp2_with fail
          go_meet
          case rel => exact ⟨_, rfl, heap_alloc_new _ _, HB1.out.alloc HB1.out.size _⟩
         ·obtain ⟨W, hW⟩ : ∃ W, W = (wr.alloc (.cells #[.int .i64 0, .int .i64 0, .int .i64 0, .int .i64 0] 97)).drew := ⟨_, rfl⟩
          have hbW : Below wr.heap.size wr W := by rw [hW]; exact (Ca.below_alloc _ _).drew
          have hhW : W.heap[wr.heap.size]? = some (.cells #[.int .i64 0, .int .i64 0, .int .i64 0, .int .i64 0] 97) := by rw [hW]; exact heap_alloc_new wr _
          have hsW : W.heap.size = wr.heap.size + 1 := by rw [hW]; exact World.size_alloc wr _
          go_simp
          rw [← hW]
          have y0 := (hbW.cell (cell_lt x0)).trans x0
          have y1 := (hbW.cell (cell_lt p1)).trans p1
          have y2 := (hbW.cell (cell_lt hc6)).trans hc6
          have HbW : Hid _ := hbW
          have HhW : Hid _ := hhW
          have HsW : Hid _ := hsW
          clear hbW hhW hsW hW
          refine hK.out _ _ ⟨y0, y1, y2⟩ (fun hHeld => ?_)
          clear hK K
          (try simp only [Act.put, lqa, lqb, lqc, lqd, lqe, lqf])
          refine wpAnyH_ready (rs := [12]) (by kernel_rfl) (by simp) ?_
          refine AllReadyH.cons rfl (fun K hK => ?_) AllReadyH.nil
          go_simp
          refine Calls.mono (HG.out W (HB.out.trans (HbW.out.mono HB.out.size))) ?_
          rintro y w1 ⟨rfl, hb1⟩
          have hB1 : Below wr.heap.size wr w1 := HbW.out.trans (hb1.mono (by have := HsW.out; omega))
          have hx1 : w1.heap[wr.heap.size]? = some (.cells #[.int .i64 0, .int .i64 0, .int .i64 0, .int .i64 0] 97) := (hb1.block _ (by have := HsW.out; omega)).trans HhW.out
          clear y0 y1 y2
          have y0 := (hB1.cell (cell_lt x0)).trans x0
          have y1 := (hB1.cell (cell_lt p1)).trans p1
          have y2 := (hB1.cell (cell_lt hc6)).trans hc6
          have z0 := cell_of_heap (i := 0) hx1
          have z1 := cell_of_heap (i := 1) hx1
          have z2 := cell_of_heap (i := 2) hx1
          have z3 := cell_of_heap (i := 3) hx1
          have zf := fun i => frozen_of_heap (i := i) hx1
          simp only [List.getElem?_toArray, List.getElem?_cons_zero, List.getElem?_cons_succ] at z0 z1 z2 z3
          have HB1 : Hid _ := hB1
          have HX1 : Hid _ := hx1
          clear hb1 hB1 hx1
          refine hK.out _ _ ⟨y0, y1, y2⟩ (fun hHeld => ?_)
          clear hK K
          (try simp only [Act.put, lqa, lqb, lqc, lqd, lqe, lqf])
          refine tkz [13, 14, 15] ?_
          iterate 3
           refine tky (v := ?_) rfl (by kernel_rfl) (by kernel_rfl) (by kernel_rfl) (fun _ _ _ h => h) (Or.inl ⟨by kernel_rfl, ?_⟩) (by assumption) ?_
           rotate_left
           ·(intro w hSw; (try dsimp only at hSw); go_simp) <;> with_reducible rfl
           (try simp only [Act.put, lqa, lqb, lqc, lqd, lqe, lqf])
          refine tkw ?_
          refine wpAnyH_ready (rs := [17]) (by kernel_rfl) (by simp) ?_
          refine AllReadyH.cons rfl (fun K hK => ?_) AllReadyH.nil
          go_simp
          obtain ⟨Z, hZ⟩ : ∃ Z, Z = ((((w1.setCell ⟨wr.heap.size, 0, none⟩ (.int .i64 kk)).setCell ⟨wr.heap.size, 1, none⟩ (.int .i64 id)).setCell ⟨wr.heap.size, 2, none⟩ (.int .i64 ln)).setCell ⟨wr.heap.size, 3, none⟩ (.int .i64 rt)) := ⟨_, rfl⟩
          have hZb : Below wr.heap.size wr Z := by rw [hZ]; exact (((HB1.out.setCell (Nat.le_refl _) _).setCell (Nat.le_refl _) _).setCell (Nat.le_refl _) _).setCell (Nat.le_refl _) _
          have hZx : Z.heap[wr.heap.size]? = some (.cells #[.int .i64 kk, .int .i64 id, .int .i64 ln, .int .i64 rt] 97) := by rw [hZ]; exact Xd.set4_heap HX1.out _ _ _ _
          rw [← hZ]
          clear hZ y0 y1 y2 z0 z1 z2 z3 zf
          have y0 := (hZb.cell (cell_lt x0)).trans x0
          have y1 := (hZb.cell (cell_lt p1)).trans p1
          have y2 := (hZb.cell (cell_lt hc6)).trans hc6
          have HF : Hid _ := hZb
          have HZ : Hid _ := hZx
          clear hZb hZx
          refine hK.out _ _ ⟨y0, y1, y2⟩ (fun hHeld => ?_)
          clear hK K
          (try simp only [Act.put, lqa, lqb, lqc, lqd, lqe, lqf])
          refine tkz [18] ?_
          iterate 1
           refine tky (v := ?_) rfl (by kernel_rfl) (by kernel_rfl) (by kernel_rfl) (fun _ _ _ h => h) (Or.inl ⟨by kernel_rfl, ?_⟩) (by assumption) ?_
           rotate_left
           ·(intro w hSw; (try dsimp only at hSw); go_simp) <;> with_reducible rfl
           (try simp only [Act.put, lqa, lqb, lqc, lqd, lqe, lqf])
          refine tkw ?_
          refine wpAnyH_done (by kernel_rfl) ?_ _
          clear y0 y1 y2 hHeld
          go_wp2_with fail
          go_meet
          case rel => exact ⟨_, rfl, HZ.out, HF.out⟩
        case rest =>
         clear x0 p1 hc6 HG
         obtain ⟨XC, rfl, hC, hbc⟩ := hcut
         obtain ⟨av, nv, cv, rfl⟩ := OW.shape HO.out
         obtain ⟨W, hW⟩ : ∃ W, W = (wc.alloc (.cells #[.int .u64 (s : Int), .int .u64 id, .int .u64 ln, .int .u64 rt] 42)).drew := ⟨_, rfl⟩
         have hbW : Below wc.heap.size wc W := by rw [hW]; exact (Ca.below_alloc _ _).drew
         have hhW : W.heap[wc.heap.size]? = some (.cells (urow [(s : Int), id, ln, rt]) 42) := by rw [hW]; exact heap_alloc_new wc _
         have hbrW : Below wr.heap.size wr W := hbc.trans (hbW.mono hbc.size)
         have hOW := OW.below HO.out hbrW
         have hl0 := HSn.out
         obtain ⟨a4, n4, c4, w4, hrun4, hO4, hB4, hg4⟩ := grow_c hOW (rdv_block hhW rfl).c (by simp only [List.length_append, List.length_cons, List.length_nil] at hl0 ⊢; omega) (Nat.le_trans HB.out.size hbrW.size)
         have hCW := (hbW.block _ (lt_of_heap hC)).trans hC
         have hC4 := OW.other hOW hCW (by decide) hg4
         have h6W := (hbrW.block _ (lt_of_heap HH6.out)).trans HH6.out
         have h64 := OW.other hOW h6W (by decide) hg4
         have HI4 : Hid (IOW w4 w.heap.size _ sl) := IOW.grown (IOW.below HI.out hbrW) hOW hg4
         have HB4 : Hid (Below w.heap.size w w4) := (HB.out.trans (hbrW.mono HB.out.size)).trans hB4
         have HO4 : Hid (OW w4 w.heap.size (.slice a4 n4 c4) ((AP ++ A) ++ [(s : Int), id, ln, rt])) := hO4
         have HC4 : Hid _ := hC4
         have HRun4 : Hid (∀ ty, (Builtin.append_ #[27, 27] ty #[.slice av nv cv, .slice (some ⟨wc.heap.size, 0, none⟩) 4 4]).run Tryz.prog W = .ok (.slice a4 n4 c4) w4) := hrun4
         have h6c := (hbc.block _ (lt_of_heap HH6.out)).trans HH6.out
         have t6 : ∀ V : World, V.heap[g6]? = some (.cells cur6 3) → V.cell? ⟨g6, j, none⟩ = some (.int .i64 (s : Int)) := fun V hV => by rw [cell_of_heap hV]; exact HJ6.out
         have tC : ∀ V : World, V.heap[XC]? = some (.cells #[.int .i64 kk, .int .i64 id, .int .i64 ln, .int .i64 rt] 97) → V.cell? ⟨XC, 1, none⟩ = some (.int .i64 id) ∧ V.cell? ⟨XC, 2, none⟩ = some (.int .i64 ln) ∧ V.cell? ⟨XC, 3, none⟩ = some (.int .i64 rt) := fun V hV => by refine ⟨?_, ?_, ?_⟩ <;> (rw [cell_of_heap hV]; rfl)
         have u0 := t6 wc h6c
         obtain ⟨u1, u2, u3⟩ := tC wc hC
         have v0 := t6 W h6W
         obtain ⟨v1, v2, v3⟩ := tC W hCW
         have q0 := t6 w4 h64
         obtain ⟨q1, q2, q3⟩ := tC w4 hC4
         have HW : Hid _ := hW
         clear hC hbc hbW hhW hbrW hOW hl0 hrun4 hO4 hB4 hg4 hCW hC4 h6W h64 h6c t6 hW
         go_wp2_with fail
         refine wp_region_held_drew (S := fun w' => w'.cell? ⟨g6, j, none⟩ = some (.int .i64 (s : Int)) ∧ w'.cell? ⟨XC, 1, none⟩ = some (.int .i64 id) ∧ w'.cell? ⟨XC, 2, none⟩ = some (.int .i64 ln) ∧ w'.cell? ⟨XC, 3, none⟩ = some (.int .i64 rt)) (by kernel_rfl) ⟨u0, u1, u2, u3⟩ (fun hHeld => ?_)
         refine tkz [0, 1, 2, 3, 4, 5, 6, 7, 8, 9, 10, 11, 12, 13, 14] ?_
         iterate 15
          refine tky (v := ?_) rfl (by kernel_rfl) (by kernel_rfl) (by kernel_rfl) (fun _ _ _ h => h) (Or.inl ⟨by kernel_rfl, ?_⟩) (by assumption) ?_
          rotate_left
          ·(intro w hSw; (try dsimp only at hSw); go_simp) <;> with_reducible rfl
          (try simp only [Act.put, lqa, lqb, lqc, lqd, lqe, lqf])
         refine tkw ?_
         refine wpAnyH_ready (rs := [15]) (by kernel_rfl) (by simp) ?_
         refine AllReadyH.cons rfl (fun K hK => ?_) AllReadyH.nil
         go_simp
         rw [← HW.out]
         clear HW
         refine hK.out _ _ ⟨v0, v1, v2, v3⟩ (fun hHeld => ?_)
         clear hK K
         (try simp only [Act.put, lqa, lqb, lqc, lqd, lqe, lqf])
         refine wpAnyH_ready (rs := [16]) (by kernel_rfl) (by simp) ?_
         refine AllReadyH.cons rfl (fun K hK => ?_) AllReadyH.nil
         refine Ip.step_append_eq rfl (.tmp 140) (.tmp 155) 27 rfl (.slice av nv cv) (.slice (some ⟨wc.heap.size, 0, none⟩) 4 4) (.slice a4 n4 c4) (by rfl) (by rfl) HRun4.out ?_
         refine hK.out _ _ ⟨q0, q1, q2, q3⟩ (fun hHeld => ?_)
         clear hK K
         (try simp only [Act.put, lqa, lqb, lqc, lqd, lqe, lqf])
         refine tkz [17] ?_
         iterate 1
          refine tky (v := ?_) rfl (by kernel_rfl) (by kernel_rfl) (by kernel_rfl) (fun _ _ _ h => h) (Or.inl ⟨by kernel_rfl, ?_⟩) (by assumption) ?_
          rotate_left
          ·(intro w hSw; (try dsimp only at hSw); go_simp) <;> with_reducible rfl
          (try simp only [Act.put, lqa, lqb, lqc, lqd, lqe, lqf])
         refine tkw ?_
         refine wpAnyH_done (by kernel_rfl) ?_ _
         clear hHeld u0 u1 u2 u3 v0 v1 v2 v3 q0 q1 q2 q3 HRun4 HO HI HB
         obtain ⟨id, rfl⟩ : ∃ i : Nat, id = (i : Int) := ⟨id.toNat, by have := HRg.out; omega⟩
         obtain ⟨ln, rfl⟩ : ∃ i : Nat, ln = (i : Int) := ⟨ln.toNat, by have := HRg.out; omega⟩
         have h16 : id + ln ≤ 16 := by have := HRg.out; omega
         simp only [Int.toNat_natCast] at HY
         obtain ⟨A1, hA1⟩ : ∃ A1, A1 = AP ++ A ++ [(s : Int), (id : Int), (ln : Int), rt] := ⟨_, rfl⟩
         rw [← hA1] at HO4
         have HA1 : Hid _ := hA1
         have HA1l : Hid (A1.length ≤ 40010) := by
          show _ ≤ _
          have h1 := HSn.out
          rw [hA1]
          simp only [List.length_append, List.length_cons, List.length_nil] at h1 ⊢
          omega
         clear hA1 tC hws hwi hwl hwt
         go_wp2
         go_loopw [5, 17] (fun v s wq => ∃ (b : Nat), b ≤ ln ∧ s = .int .i64 b ∧ OW wq w.heap.size v (A1 ++ extW S.l S.ds id b) ∧ IOW wq w.heap.size (.slice (some ⟨g6, 0, none⟩) n7 c7) sl ∧ wq.heap[XC]? = some (.cells #[.int .i64 kk, .int .i64 id, .int .i64 ln, .int .i64 rt] 97) ∧ Below w.heap.size w wq) (fun _ s _ => ln - (intOf s).toNat)
         case atStart =>
          refine ⟨0, by omega, rfl, ?_, HI4.out, HC4.out, HB4.out⟩
          show OW _ _ _ (A1 ++ [])
          rw [List.append_nil]
          exact HO4.out
         case round =>
          clear HO4 HI4 HC4 HB4
          obtain ⟨b, hb, rfl, hO, hI, hC, hB⟩ := hrel
          have HO : Hid (OW _ w.heap.size _ _) := hO
          have HI : Hid (IOW _ w.heap.size _ sl) := hI
          have HB : Hid (Below w.heap.size w _) := hB
          have HC : Hid _ := hC
          have u1 := cell_of_heap (i := 1) hC
          have u2 := cell_of_heap (i := 2) hC
          simp only [List.getElem?_toArray, List.getElem?_cons_zero, List.getElem?_cons_succ] at u1 u2
          by_cases hbl : b < ln
          ·have ib : (b : Int) < (ln : Int) := by omega
           have hRr := HX.out.below hB
           obtain ⟨-, x0, -, -, -, -⟩ := hRr.cells
           have hdr := (Below.refl _ _ : Below wr.heap.size wr wr).drew
           have hlk := x_look (hRr.below hdr) (by have := HD.out; omega) (id + b) (by have := HD.out; omega)
           rw [Int.natCast_add] at hlk
           have hsum : IntKind.i64.wrap ((id : Int) + (b : Int)) = (id : Int) + (b : Int) := by rw [IntKind.wrap_i64]; omega
           have HEl : Hid ((A1 ++ extW S.l S.ds id b).length + (Xd.lookW S.l S.ds (id + b)).length ≤ 50000) := by
            show _ ≤ _
            obtain ⟨_, _, _, b1, _⟩ := hRr.disk
            obtain ⟨_, _, hdd, _⟩ := b1.disk
            have h1 := extW_len b1.linv hdd.len id b (by have := HD.out; omega)
            have h2 := Xd.lookW_len b1.linv hdd.len (b := id + b) (by have := HD.out; omega)
            have h3 := HA1l.out
            simp only [List.length_append]
            omega
           have HJ : Hid (A1 ++ extW S.l S.ds id (b + 1) = (A1 ++ extW S.l S.ds id b) ++ Xd.lookW S.l S.ds (id + b)) := by
            show _ = _
            rw [List.append_assoc]
            rfl
           obtain ⟨av2, nv2, cv2, rfl⟩ := OW.shape HO.out
           clear hO hI hC hB hRr
           generalize A1 ++ extW S.l S.ds id b = A2 at *
           go_wp2_with fail
           refine wp_region_held_drew (S := fun w' => w'.cell? ⟨X, 1, none⟩ = some (ptr Y.J.p1) ∧ w'.cell? ⟨XC, 1, none⟩ = some (.int .i64 (id : Int))) (by kernel_rfl) ⟨x0, u1⟩ (fun hHeld => ?_)
           refine tkz [0, 1, 2, 3, 4, 5, 6, 7, 8] ?_
           iterate 9
            refine tky (v := ?_) rfl (by kernel_rfl) (by kernel_rfl) (by kernel_rfl) (fun _ _ _ h => h) (Or.inl ⟨by kernel_rfl, ?_⟩) (by assumption) ?_
            rotate_left
            ·(intro w hSw; (try dsimp only at hSw); go_simp) <;> with_reducible rfl
            (try simp only [Act.put, lqa, lqb, lqc, lqd, lqe, lqf])
           refine tkw ?_
           refine wpAnyH_ready (rs := [9]) (by kernel_rfl) (by simp) ?_
           refine AllReadyH.cons rfl (fun K hK => ?_) AllReadyH.nil
           go_simp
           refine hlk.mono ?_
           rintro y w5 ⟨ap, np, cp, rfl, hrd, hw5⟩
           rw [hw5]
           clear hw5 w5
           have hOd := OW.below HO.out hdr
           obtain ⟨a5, n5, c5, w5, hrun5, hO5, hB5, hg5⟩ := grow_c hOd hrd (by have := HEl.out; omega) (Nat.le_trans HB.out.size hdr.size)
           have HI5 : Hid (IOW w5 w.heap.size _ sl) := IOW.grown (IOW.below HI.out hdr) hOd hg5
           have HB5 : Hid (Below w.heap.size w w5) := (HB.out.trans (hdr.mono HB.out.size)).trans hB5
           have HO5 : Hid (OW w5 w.heap.size (.slice a5 n5 c5) (A2 ++ Xd.lookW S.l S.ds (id + b))) := hO5
           have HRun5 : Hid (∀ ty, (Builtin.append_ #[27, 27] ty #[.slice av2 nv2 cv2, .slice ap np cp]).run Tryz.prog wr.drew = .ok (.slice a5 n5 c5) w5) := hrun5
           obtain ⟨-, z0, -, -, -, -⟩ := (HX.out.below HB5.out).cells
           have hC5 := OW.other hOd HC.out (by decide) hg5
           have z1 := cell_of_heap (i := 1) hC5
           simp only [List.getElem?_toArray, List.getElem?_cons_zero, List.getElem?_cons_succ] at z1
           have HC5 : Hid _ := hC5
           clear hlk hrd hOd hrun5 hO5 hB5 hg5 hC5 hsum
           refine hK.out _ _ ⟨x0, u1⟩ (fun hHeld => ?_)
           clear hK K
           (try simp only [Act.put, lqa, lqb, lqc, lqd, lqe, lqf])
           refine wpAnyH_ready (rs := [10]) (by kernel_rfl) (by simp) ?_
           refine AllReadyH.cons rfl (fun K hK => ?_) AllReadyH.nil
           refine Ip.step_append_eq rfl (.tmp 163) (.tmp 172) 27 rfl (.slice av2 nv2 cv2) (.slice ap np cp) (.slice a5 n5 c5) (by rfl) (by rfl) HRun5.out ?_
           refine hK.out _ _ ⟨z0, z1⟩ (fun hHeld => ?_)
           clear hK K
           (try simp only [Act.put, lqa, lqb, lqc, lqd, lqe, lqf])
           refine tkz [11] ?_
           iterate 1
            refine tky (v := ?_) rfl (by kernel_rfl) (by kernel_rfl) (by kernel_rfl) (fun _ _ _ h => h) (Or.inl ⟨by kernel_rfl, ?_⟩) (by assumption) ?_
            rotate_left
            ·(intro w hSw; (try dsimp only at hSw); go_simp) <;> with_reducible rfl
            (try simp only [Act.put, lqa, lqb, lqc, lqd, lqe, lqf])
           refine tkw ?_
           refine wpAnyH_done (by kernel_rfl) ?_ _
           clear hHeld x0 u1 u2 z0 z1
           go_wp2
           go_roundw
           case rel => exact ⟨b + 1, by omega, by go_num, by rw [HJ.out]; exact HO5.out, HI5.out, HC5.out, HB5.out⟩
           case measure => simp [intOf]; omega
          ·have hbn : b = ln := by omega
           rw [hbn] at HO
           have gb : decide ((b : Int) < (ln : Int)) = false := decide_eq_false (by omega)
           have hn64 := HL6.out
           clear hO hI hC hB hbn
           go_wp2
           go_roundw
           case rel =>
            refine ⟨j + 1, by omega, by go_num, ?_, HI.out, HB.out⟩
            rw [HY.out]
            have e1 : AP ++ (A ++ ([(s : Int), (id : Int), (ln : Int), rt] ++ extW S.l S.ds id ln)) = A1 ++ extW S.l S.ds id ln := by rw [HA1.out]; simp
            rw [e1]
            exact HO.out
           case measure => simp [intOf]; omega
       ·have hjn : j = n7 := by omega
        have gj7 : decide ((j : Int) < (n7 : Int)) = false := decide_eq_false (by omega)
        have gj7n : decide (j < n7) = false := decide_eq_false hlt
        have htk : sl.take j = sl := by rw [hjn, HN6.out, List.take_length]
        rw [htk, HSl.out, ← seesX_flat] at hO
        have HAl2 : Hid ((AP ++ seesX S.l S.ds S.C e 64).length ≤ 40000) := by
         show _ ≤ _
         obtain ⟨_, _, _, b1, _⟩ := (HX.out.below hB).disk
         obtain ⟨_, _, hdd, _⟩ := b1.disk
         have h1 := seesX_len b1.linv hdd.len HOk.out.x e 64
         have h2 := HAPl.out
         rw [HD.out] at h1
         simp only [List.length_append]
         omega
        have HO : Hid (OW wr w.heap.size _ (AP ++ seesX S.l S.ds S.C e 64)) := hO
        have HB : Hid (Below w.heap.size w wr) := hB
        have hwt := x_waits (HX.out.below hB) HK.out e
        have HVq : Hid (seesV S e = (AP ++ seesX S.l S.ds S.C e 64) ++ [((Ip.qat S.Q e).length : Int)]) := by
         show _ = _
         rw [HV.out, HAP.out, HAF.out]
         simp [catL]
        have hq4 := HQ.out
        generalize (Ip.qat S.Q e).length = q at *
        generalize AP ++ seesX S.l S.ds S.C e 64 = A3 at *
        have hwq := wrap_word (x := (q : Int)) (by omega) (by omega)
        obtain ⟨av, nv, cv, rfl⟩ := OW.shape HO.out
        clear htk hjn hO hI hB HV
        go_wp2_with fail
        refine hwt.mono ?_
        rintro y w5 ⟨rfl, hb5⟩
        have hbV : Below wr.heap.size wr (w5.alloc (.cells #[.int .u64 (q : Int)] 42)) := hb5.trans ((Ca.below_alloc _ _).mono hb5.size)
        have hhV : (w5.alloc (.cells #[.int .u64 (q : Int)] 42)).heap[w5.heap.size]? = some (.cells (urow [(q : Int)]) 42) := heap_alloc_new _ _
        have hOV := OW.below HO.out hbV
        obtain ⟨a4, n4, c4, w4, hrun4, hO4, hB4, hg4⟩ := grow_c hOV (rdv_block hhV rfl).c (by have := HAl2.out; simp only [List.length_cons, List.length_nil]; omega) (Nat.le_trans HB.out.size hbV.size)
        have HB4 : Hid (Below w.heap.size w w4) := (HB.out.trans (hbV.mono HB.out.size)).trans hB4
        have HO4 : Hid (OW w4 w.heap.size (.slice a4 n4 c4) (A3 ++ [(q : Int)])) := hO4
        have HRun4 : Hid (∀ ty, (Builtin.append_ #[27, 27] ty #[.slice av nv cv, .slice (some ⟨w5.heap.size, 0, none⟩) 1 1]).run Tryz.prog (w5.alloc (.cells #[.int .u64 (q : Int)] 42)) = .ok (.slice a4 n4 c4) w4) := hrun4
        clear hb5 hbV hhV hOV hrun4 hO4 hB4 hg4 hwt HO HB hq4
        go_wp2_with (at_builtin; refine Ip.wpList_append_eq rfl _ _ _ rfl _ _ _ rfl rfl HRun4.out ?_)
        go_ret
        exact ⟨_, rfl, by rw [HVq.out]; exact OW.urow HO4.out, HB4.out⟩
end
end Go.Proofs.YtbhpafgoofkkmaaGreatDoor
