import Derived.Test.YtbhpafgoofkkmaaGreatDoorXoB
import Derived.Deep.RegionHeld3
import Derived.Deep.AppendLies
set_option linter.all false
namespace Go.Proofs.YtbhpafgoofkkmaaGreatDoor
open Go.RowKit
def slotF (n : Nat) (T : Ca.Tab) (vs : List Int) (e : Int) (s : Nat) : List Int := if (Ca.getT T e s).is = true then [(s : Int), (Ca.getT T e s).id, (Ca.getT T e s).rights] ++ frmW n vs (Ca.getT T e s).id else []
def seesF (n : Nat) (T : Ca.Tab) (vs : List Int) (e : Int) : Nat → List Int
 | 0 => []
 | k + 1 => seesF n T vs e k ++ slotF n T vs e (k + 1)
theorem frmW_len (n : Nat) (vs : List Int) (f : Int) : (frmW n vs f).length ≤ 32 := by
 unfold frmW
 split
 ·unfold Me.frameOf
  simp
  omega
 ·simp
theorem slotF_len (n : Nat) (T : Ca.Tab) (vs : List Int) (e : Int) (s : Nat) : (slotF n T vs e s).length ≤ 35 := by
 unfold slotF
 split
 ·have := frmW_len n vs (Ca.getT T e s).id
  simp
  omega
 ·simp
theorem seesF_len (n : Nat) (T : Ca.Tab) (vs : List Int) (e : Int) : ∀ k, (seesF n T vs e k).length ≤ 35 * k
 | 0 => by simp [seesF]
 | k + 1 => by
  have := seesF_len n T vs e k
  have := slotF_len n T vs e (k + 1)
  simp [seesF]
  omega
theorem seesF_no {n : Nat} {T : Ca.Tab} {vs : List Int} {e : Int} {k : Nat} (h : (Ca.getT T e (k + 1 : Nat)).is = false) : seesF n T vs e (k + 1) = seesF n T vs e k := by
 show seesF n T vs e k ++ slotF n T vs e (k + 1) = _
 unfold slotF
 rw [if_neg (by rw [h]; decide), List.append_nil]
theorem seesF_yes {n : Nat} {T : Ca.Tab} {vs : List Int} {e : Int} {k : Nat} (h : (Ca.getT T e (k + 1 : Nat)).is = true) : seesF n T vs e (k + 1) = (seesF n T vs e k ++ [((k + 1 : Nat) : Int), (Ca.getT T e (k + 1 : Nat)).id, (Ca.getT T e (k + 1 : Nat)).rights]) ++ frmW n vs (Ca.getT T e (k + 1 : Nat)).id := by
 show seesF n T vs e k ++ slotF n T vs e (k + 1) = _
 unfold slotF
 rw [if_pos h, List.append_assoc]
section
variable {w : World} {Kb : Nat} {L : XL} {S : XS}
theorem OW.other {w w' : World} {B : Nat} {v : Value} {xs : List Int} {X : Nat} {cs : Array Value} {t : TypeId} {fr : Nat × Nat} (h : OW w B v xs) (hX : w.heap[X]? = some (.cells cs t fr)) (ht : t ≠ 42) (hg : w.grownBy w' v.ownBlock) : w'.heap[X]? = some (.cells cs t fr) := by
 refine (hg.block X (lt_of_heap hX) (fun e => ?_)).trans hX
 obtain ⟨cs', hcs⟩ := Ip.own_type h e.symm
 rw [hX] at hcs
 simp only [Option.some.injEq, Obj.cells.injEq] at hcs
 exact ht hcs.2.1
set_option maxHeartbeats 4000000 in
theorem seesFrames_at (h : ExoAt w Kb L S) (e : Int) :
  Calls Tryz.prog 37 #[ptr Kb, .int .i64 e] w fun x w' => ∃ v, x = .returned v ∧ OW w' w.heap.size v (seesF S.n S.T S.vs e 64) ∧ Below w.heap.size w w' := by
 have HX : Hid _ := h
 clear h
 go_enter Tryz.func37, Tryz.ntmps37
 go_wp2
 go_loopw [5, 6] (fun v s wr => ∃ (k : Nat), k ≤ 64 ∧ s = .int .i64 (k + 1 : Nat) ∧ OW wr w.heap.size v (seesF S.n S.T S.vs e k) ∧ Below w.heap.size w wr) (fun _ s _ => 65 - (intOf s).toNat)
 case atStart => exact ⟨0, by omega, rfl, OW.nil _ _, Below.refl _ _⟩
 case round =>
  obtain ⟨k, hk, rfl, hO, hB⟩ := hrel
  by_cases hlt : k < 64
  ·have hE := HX.out.below hB
   have k0 := hE.k0
   have hcap := Ex.kcap_at hE.mem e (k + 1 : Nat)
   have HI : Hid ((Ca.getT S.T e (k + 1 : Nat)).is = true → Ex.OkC S.n (Ca.getT S.T e (k + 1 : Nat))) := fun hi => hE.mem.inv.get hi
   have HN2 : Hid (S.n ≤ 1024) := hE.mem.n2
   have HNo : Hid ((Ca.getT S.T e (k + 1 : Nat)).is = false → seesF S.n S.T S.vs e (k + 1) = seesF S.n S.T S.vs e k) := fun hi => seesF_no hi
   have HYe : Hid ((Ca.getT S.T e (k + 1 : Nat)).is = true → seesF S.n S.T S.vs e (k + 1) = (seesF S.n S.T S.vs e k ++ [((k + 1 : Nat) : Int), (Ca.getT S.T e (k + 1 : Nat)).id, (Ca.getT S.T e (k + 1 : Nat)).rights]) ++ frmW S.n S.vs (Ca.getT S.T e (k + 1 : Nat)).id) := fun hi => seesF_yes hi
   have HLn : Hid ((seesF S.n S.T S.vs e k).length ≤ 35 * k) := seesF_len _ _ _ _ _
   have HO : Hid (OW _ _ _ _) := hO
   have HB : Hid _ := hB
   have HE : Hid _ := hE
   clear hO hB hE
   generalize Ca.getT S.T e (k + 1 : Nat) = x at *
   obtain ⟨kk, id, ln, rt⟩ := x
   dsimp only [Ca.cpRow] at *
   cases hi : Ca.Cp.is ⟨kk, id, ln, rt⟩ with
   | false =>
    rw [hi] at hcap
    have HN : Hid (seesF S.n S.T S.vs e (k + 1) = seesF S.n S.T S.vs e k) := HNo.out hi
    clear hi HI HNo HYe
    go_wp2_with (go_at_call 100; refine hcap.mono ?_; rintro x w1 ⟨rfl, hb1⟩)
    go_roundw
    case rel => exact ⟨k + 1, by omega, by go_num, by rw [HN.out]; exact (OW.below HO.out hb1).below (Ca.below_alloc _ _), HB.out.trans ((hb1.trans ((Ca.below_alloc _ _).mono hb1.size)).mono HB.out.size)⟩
    case measure => simp [intOf]; omega
   | true =>
    rw [hi] at hcap
    obtain ⟨-, i0, i1, -, r0, r1⟩ := HI.out hi
    have HY : Hid (seesF S.n S.T S.vs e (k + 1) = (seesF S.n S.T S.vs e k ++ [(k : Int) + 1, id, rt]) ++ frmW S.n S.vs id) := HYe.out hi
    dsimp only at i0 i1 r0 r1
    have HRange : Hid ((0 ≤ id ∧ id < 1025) ∧ 0 ≤ rt ∧ rt < 8) := ⟨⟨i0, by have := HN2.out; omega⟩, by omega, by omega⟩
    clear hi HI HNo HYe i0 i1 r0 r1
    go_wp2_with fail
    refine hcap.mono ?_
    rintro x w1 ⟨rfl, hb1⟩
    obtain ⟨W, hW⟩ : ∃ W, W = w1.alloc (.cells #[.int .i64 kk, .int .i64 id, .int .i64 ln, .int .i64 rt] 97) := ⟨_, rfl⟩
    obtain ⟨V, hV⟩ : ∃ V, V = W.alloc (.cells #[.int .i64 ((k : Int) + 1), .int .i64 id, .int .i64 rt] 3) := ⟨_, rfl⟩
    have hbW : Below w1.heap.size w1 W := by rw [hW]; exact Ca.below_alloc _ _
    have hbV : Below W.heap.size W V := by rw [hV]; exact Ca.below_alloc _ _
    have hsW : W.heap.size = w1.heap.size + 1 := by rw [hW]; simp
    have hsV : V.heap.size = w1.heap.size + 1 + 1 := by rw [hV]; simp [hsW]
    have hX : V.heap[w1.heap.size]? = some (.cells #[.int .i64 kk, .int .i64 id, .int .i64 ln, .int .i64 rt] 97) := (hbV.block _ (by omega)).trans (by rw [hW]; exact heap_alloc_new _ _)
    have hZ : V.heap[w1.heap.size + 1]? = some (.cells #[.int .i64 ((k : Int) + 1), .int .i64 id, .int .i64 rt] 3) := by rw [hV, ← hsW]; exact heap_alloc_new _ _
    have hb : Below wr.heap.size wr V := (hb1.trans (hbW.mono hb1.size)).trans (hbV.mono (by have := hb1.size; omega))
    have hrow := row_at [(k : Int) + 1, id, rt] 3 (w1.heap.size + 1) 3 V rfl (fun j x hj => by
      have hj3 : j < 3 := (List.getElem?_eq_some_iff.1 hj).1
      obtain ⟨⟨r1, r2⟩, r3, r4⟩ := HRange.out
      rw [cell_of_heap hZ]
      have : j = 0 ∨ j = 1 ∨ j = 2 := by omega
      rcases this with rfl | rfl | rfl <;> (simp at hj; subst hj; exact ⟨rfl, by omega, by omega⟩)) (by omega)
    have HX1 : Hid _ := hX
    have HBV : Hid (Below wr.heap.size wr V) := hb
    have HSV : Hid (w1.heap.size < V.heap.size) := by show _ < _; omega
    have HW : Hid _ := hW
    have HV : Hid _ := hV
    clear hb1 hW hV hbW hbV hsW hsV hX hZ hb hcap
    go_wp2_with fail
    rw [← HW.out, ← HV.out]
    clear HW HV
    generalize w1.heap.size = X at *
    refine hrow.mono ?_
    rintro x w2 ⟨cp, rfl, ho2, hb2⟩
    have hO2 := (OW.below HO.out HBV.out).below hb2
    have hl := HLn.out
    obtain ⟨a', c', w3, hrun, hO3, hB3, hg3⟩ := grow_words hO2 (ho2.urow.rdv) (by simp only [List.length_cons, List.length_nil]; omega) (Nat.le_trans HB.out.size (Nat.le_trans HBV.out.size hb2.size))
    obtain ⟨a, c, rfl, _⟩ := OW.form HO.out
    have HRun : Hid (∀ ty, (Builtin.append_ #[27, 27] ty #[.slice a (seesF S.n S.T S.vs e k).length c, .slice (some ⟨V.heap.size, 0, none⟩) 3 cp]).run Tryz.prog w2 = .ok (.slice a' ((seesF S.n S.T S.vs e k).length + 3) c') w3) := hrun
    have HO3 : Hid (OW w3 w.heap.size (.slice a' ((seesF S.n S.T S.vs e k).length + 3) c') (seesF S.n S.T S.vs e k ++ [(k : Int) + 1, id, rt])) := hO3
    have HX3 : Hid _ := OW.other hO2 ((hb2.block _ HSV.out).trans HX1.out) (by decide) hg3
    have HB3 : Hid (Below w.heap.size w w3) := ((HB.out.trans (HBV.out.mono HB.out.size)).trans (hb2.mono (Nat.le_trans HB.out.size HBV.out.size))).trans hB3
    have HE3 : Hid (ExoAt w3 Kb L S) := HX.out.below HB3.out
    clear hrow ho2 hb2 hO2 hl hrun hO3 hB3 hg3 HX1 HBV HSV HO HB HE k0 HLn
    go_wp2_with (at_builtin; refine Ip.wpList_append_eq rfl _ _ _ rfl _ _ _ rfl rfl HRun.out ?_)
    have hE3 := HE3.out.below (Below.refl w3.heap.size w3).drew
    have hX3 : w3.drew.heap[X]? = some (.cells #[.int .i64 kk, .int .i64 id, .int .i64 ln, .int .i64 rt] 97) := HX3.out
    have hS3 : w3.drew.cell? ⟨Kb, 0, none⟩ = some (ptr L.ek) ∧ w3.drew.cell? ⟨X, 1, none⟩ = some (.int .i64 id) := ⟨hE3.k0, by rw [cell_of_heap hX3]; rfl⟩
    have hWd := kwords_at hE3.mem id
    have HFl : Hid ((frmW S.n S.vs id).length ≤ 32) := frmW_len _ _ _
    have HSl : Hid ((seesF S.n S.T S.vs e k).length ≤ 35 * k) := seesF_len _ _ _ _ _
    have HO3d : Hid (OW w3.drew w.heap.size (.slice a' ((seesF S.n S.T S.vs e k).length + 3) c') (seesF S.n S.T S.vs e k ++ [(k : Int) + 1, id, rt])) := OW.below HO3.out (Below.refl w3.heap.size w3).drew
    have HB3d : Hid (Below w.heap.size w w3.drew) := HB3.out.drew
    have HX3d : Hid _ := hX3
    clear hX3 hE3 HO3 HB3 HX3 HE3
    refine wp_region_held_drew (S := fun w' => w'.cell? ⟨Kb, 0, none⟩ = some (ptr L.ek) ∧ w'.cell? ⟨X, 1, none⟩ = some (.int .i64 id)) (by kernel_rfl) hS3 (fun hHeld => ?_)
    refine tkz [0, 1, 2, 3, 4, 5, 6] ?_
    iterate 7
     refine tky (v := ?_) rfl (by kernel_rfl) (by kernel_rfl) (by kernel_rfl) (fun _ _ _ h => h) (Or.inl ⟨by kernel_rfl, ?_⟩) (by assumption) ?_
     rotate_left
     ·(intro w hSw; (try dsimp only at hSw); go_simp) <;> with_reducible rfl
     (try simp only [Act.put, lqa, lqb, lqc, lqd, lqe, lqf])
    refine tkw ?_
    refine wpAnyH_ready (rs := [7]) (by kernel_rfl) (by simp) ?_
    refine AllReadyH.cons rfl (fun K hK => ?_) AllReadyH.nil
    go_simp
    refine hWd.mono ?_
    rintro x w4 ⟨u, rfl, hu4, hb4⟩
    have hO4 := OW.below HO3d.out hb4
    have hl4 : (seesF S.n S.T S.vs e k ++ [(k : Int) + 1, id, rt]).length = (seesF S.n S.T S.vs e k).length + 3 := by simp
    obtain ⟨a5, c5, w5, hrun5, hO5, hB5, hg5⟩ := grow_words hO4 hu4.urow.rdv (by have := HFl.out; have := HSl.out; omega) (Nat.le_trans HB3d.out.size hb4.size)
    rw [hl4] at hrun5 hO5
    have hX4 := (hb4.block _ (lt_of_heap HX3d.out)).trans HX3d.out
    have hE4 := HX.out.below (HB3d.out.trans (hb4.mono HB3d.out.size))
    have hX5 := OW.other hO4 hX4 (by decide) hg5
    have HB5 : Hid (Below w.heap.size w w5) := (HB3d.out.trans (hb4.mono HB3d.out.size)).trans hB5
    have hE5 := HX.out.below HB5.out
    have hS4 : w4.cell? ⟨Kb, 0, none⟩ = some (ptr L.ek) ∧ w4.cell? ⟨X, 1, none⟩ = some (.int .i64 id) := ⟨hE4.k0, by rw [cell_of_heap hX4]; rfl⟩
    have hS5 : w5.cell? ⟨Kb, 0, none⟩ = some (ptr L.ek) ∧ w5.cell? ⟨X, 1, none⟩ = some (.int .i64 id) := ⟨hE5.k0, by rw [cell_of_heap hX5]; rfl⟩
    have HRun5 : Hid (∀ ty, (Builtin.append_ #[27, 27] ty #[.slice a' ((seesF S.n S.T S.vs e k).length + 3) c', u]).run Tryz.prog w4 = .ok (.slice a5 ((seesF S.n S.T S.vs e k).length + 3 + (frmW S.n S.vs id).length) c5) w5) := hrun5
    have HO5 : Hid (OW w5 w.heap.size (.slice a5 ((seesF S.n S.T S.vs e k).length + 3 + (frmW S.n S.vs id).length) c5) ((seesF S.n S.T S.vs e k ++ [(k : Int) + 1, id, rt]) ++ frmW S.n S.vs id)) := hO5
    obtain ⟨au, cu, rfl, _⟩ := hu4.form
    clear hu4 hb4 hO4 hl4 hrun5 hO5 hB5 hg5 hX4 hE4 hX5 hE5 hWd
    refine hK.out _ _ hS4 (fun hHeld => ?_)
    clear hK K
    (try simp only [Act.put, lqa, lqb, lqc, lqd, lqe, lqf])
    refine wpAnyH_ready (rs := [8]) (by kernel_rfl) (by simp) ?_
    refine AllReadyH.cons rfl (fun K hK => ?_) AllReadyH.nil
    refine Ip.step_append_eq rfl (.tmp 33) (.tmp 40) 27 rfl (.slice a' ((seesF S.n S.T S.vs e k).length + 3) c') (.slice au (frmW S.n S.vs id).length cu) (.slice a5 ((seesF S.n S.T S.vs e k).length + 3 + (frmW S.n S.vs id).length) c5) (by rfl) (by rfl) HRun5.out ?_
    refine hK.out _ _ hS5 (fun hHeld => ?_)
    clear hK K
    (try simp only [Act.put, lqa, lqb, lqc, lqd, lqe, lqf])
    refine tkz [9] ?_
    iterate 1
     refine tky (v := ?_) rfl (by kernel_rfl) (by kernel_rfl) (by kernel_rfl) (fun _ _ _ h => h) (Or.inl ⟨by kernel_rfl, ?_⟩) (by assumption) ?_
     rotate_left
     ·(intro w hSw; (try dsimp only at hSw); go_simp) <;> with_reducible rfl
     (try simp only [Act.put, lqa, lqb, lqc, lqd, lqe, lqf])
    refine tkw ?_
    refine wpAnyH_done (by kernel_rfl) ?_ _
    clear hHeld
    go_wp2
    go_roundw
    case rel => exact ⟨k + 1, by omega, by go_num, by rw [HY.out]; exact HO5.out, HB5.out⟩
    case measure => simp [intOf]; omega
  ·obtain rfl : k = 64 := by omega
   have HO : Hid (OW _ _ _ _) := hO
   clear hO
   go_wp2
   go_ret
   exact ⟨_, rfl, HO.out, hB⟩
end
end Go.Proofs.YtbhpafgoofkkmaaGreatDoor
namespace Go.Proofs.YtbhpafgoofkkmaaGreatDoor
open Go.RowKit
def oneB (b : Bool) : Int := if b then 1 else 0
def pageP (F : Ex.Pages) (e : Int) (p : Nat) : List Int := match Ex.kpageV F e p with
 | none => []
 | some x => [(p : Int), x.1, oneB x.2]
def seesP (F : Ex.Pages) (e : Int) : Nat → List Int
 | 0 => []
 | k + 1 => seesP F e k ++ pageP F e k
theorem seesP_len (F : Ex.Pages) (e : Int) : ∀ k, (seesP F e k).length ≤ 3 * k
 | 0 => by simp [seesP]
 | k + 1 => by
  have h1 := seesP_len F e k
  have h2 : (pageP F e k).length ≤ 3 := by unfold pageP; split <;> simp
  simp [seesP]
  omega
theorem seesP_no {F : Ex.Pages} {e : Int} {k : Nat} (h : Ex.kpageV F e k = none) : seesP F e (k + 1) = seesP F e k := by
 show seesP F e k ++ pageP F e k = _
 unfold pageP
 rw [h, List.append_nil]
theorem seesP_yes {F : Ex.Pages} {e : Int} {k : Nat} {x : Int × Bool} (h : Ex.kpageV F e k = some x) : seesP F e (k + 1) = seesP F e k ++ [(k : Int), x.1, oneB x.2] := by
 show seesP F e k ++ pageP F e k = _
 unfold pageP
 rw [h]
theorem oneIf_at (b : Bool) (w : World) :
  Calls Tryz.prog 102 #[.bool b] w fun x w' => x = .returned (.int .i64 (oneB b)) ∧ w' = w := by
 cases b
 ·go_enter Tryz.func102, Tryz.ntmps102
  go_wp2
  go_ret
  exact ⟨rfl, rfl⟩
 ·go_enter Tryz.func102, Tryz.ntmps102
  go_wp2
  go_ret
  exact ⟨rfl, rfl⟩
section
variable {w : World} {Kb : Nat} {L : XL} {S : XS}
set_option maxHeartbeats 4000000 in
theorem seesPages_at (h : ExoAt w Kb L S) (e : Int) :
  Calls Tryz.prog 38 #[ptr Kb, .int .i64 e] w fun x w' => ∃ v, x = .returned v ∧ OW w' w.heap.size v (seesP S.F e 4) ∧ Below w.heap.size w w' := by
 have HX : Hid _ := h
 clear h
 go_enter Tryz.func38, Tryz.ntmps38
 go_wp2
 go_loopw [5, 9] (fun v s wr => ∃ (k : Nat), k ≤ 4 ∧ s = .int .i64 k ∧ OW wr w.heap.size v (seesP S.F e k) ∧ Below w.heap.size w wr) (fun _ s _ => 4 - (intOf s).toNat)
 case atStart => exact ⟨0, by omega, rfl, OW.nil _ _, Below.refl _ _⟩
 case round =>
  obtain ⟨k, hk, rfl, hO, hB⟩ := hrel
  by_cases hlt : k < 4
  ·have hE := HX.out.below hB
   have k0 := hE.k0
   have hpg := Ex.kpage_at hE.mem e k
   have HSl : Hid ((seesP S.F e k).length ≤ 3 * k) := seesP_len _ _ _
   have HO : Hid (OW _ _ _ _) := hO
   have HB : Hid _ := hB
   have HIn : Hid (∀ x, Ex.kpageV S.F e k = some x → 0 ≤ x.1 ∧ x.1 < 1025) := by
    intro x hx
    unfold Ex.kpageV at hx
    split at hx
    ·rename_i hi
     have he : e.toNat < 12 := by
      obtain ⟨m, rfl, hm⟩ := Ex.isE_nat hi
      simpa using hm
     have h1 := ((hE.mem.tbl _ he).near _ _ hx).2.2
     have h2 := hE.mem.pg _ he _ _ hx
     have h3 := hE.mem.n2
     exact ⟨h1, by omega⟩
    ·cases hx
   clear hO hB hE
   cases hi : Ex.kpageV S.F e k with
   | none =>
    rw [hi] at hpg
    have HN : Hid (seesP S.F e (k + 1) = seesP S.F e k) := seesP_no hi
    dsimp only [Option.getD_none, Option.isSome_none, Mu.pv] at hpg
    clear hi HIn
    go_wp2_with (go_at_call 101; refine hpg.mono ?_; rintro x w1 ⟨rfl, hb1⟩)
    go_roundw
    case rel => exact ⟨k + 1, by omega, by go_num, by rw [HN.out]; exact (OW.below HO.out hb1).below (Ca.below_alloc _ _), HB.out.trans ((hb1.trans ((Ca.below_alloc _ _).mono hb1.size)).mono HB.out.size)⟩
    case measure => simp [intOf]; omega
   | some x =>
    obtain ⟨f, wb⟩ := x
    rw [hi] at hpg
    have HY : Hid (seesP S.F e (k + 1) = seesP S.F e k ++ [(k : Int), f, oneB wb]) := seesP_yes hi
    have HRange : Hid ((0 ≤ f ∧ f < 1025) ∧ 0 ≤ oneB wb ∧ oneB wb < 8) := ⟨HIn.out _ hi, by cases wb <;> decide⟩
    dsimp only [Option.getD_some, Option.isSome_some, Mu.pv] at hpg
    clear hi HIn
    go_wp2_with fail
    refine hpg.mono ?_
    rintro x w1 ⟨rfl, hb1⟩
    obtain ⟨W, hW⟩ : ∃ W, W = w1.alloc (.cells #[.int .i64 f, .bool wb] 50) := ⟨_, rfl⟩
    have hbW : Below w1.heap.size w1 W := by rw [hW]; exact Ca.below_alloc _ _
    have hb : Below wr.heap.size wr W.drew := ((hb1.trans (hbW.mono hb1.size))).drew
    have hX : W.drew.heap[w1.heap.size]? = some (.cells #[.int .i64 f, .bool wb] 50) := by rw [hW]; exact heap_alloc_new _ _
    have HOd : Hid (OW W.drew w.heap.size _ (seesP S.F e k)) := OW.below HO.out hb
    have HBd : Hid (Below w.heap.size w W.drew) := HB.out.trans (hb.mono HB.out.size)
    obtain ⟨a, c, rfl, _⟩ := OW.form HO.out
    have hS0 : W.drew.cell? ⟨w1.heap.size, 0, none⟩ = some (.int .i64 f) ∧ W.drew.cell? ⟨w1.heap.size, 1, none⟩ = some (.bool wb) := by rw [cell_of_heap hX, cell_of_heap hX]; exact ⟨rfl, rfl⟩
    have HX0 : Hid _ := hX
    have HW : Hid _ := hW
    clear hb1 hW hbW hb hX hpg HO HB
    go_wp2_with fail
    rw [← HW.out]
    clear HW
    generalize w1.heap.size = X at *
    refine wp_region_held_drew (S := fun w' => w'.cell? ⟨X, 0, none⟩ = some (.int .i64 f) ∧ w'.cell? ⟨X, 1, none⟩ = some (.bool wb)) (by kernel_rfl) hS0 (fun hHeld => ?_)
    refine tkz [0, 1, 2, 3, 4, 5] ?_
    iterate 6
     refine tky (v := ?_) rfl (by kernel_rfl) (by kernel_rfl) (by kernel_rfl) (fun _ _ _ h => h) (Or.inl ⟨by kernel_rfl, ?_⟩) (by assumption) ?_
     rotate_left
     ·(intro w hSw; (try dsimp only at hSw); go_simp) <;> with_reducible rfl
     (try simp only [Act.put, lqa, lqb, lqc, lqd, lqe, lqf])
    refine tkw ?_
    refine wpAnyH_ready (rs := [6]) (by kernel_rfl) (by simp) ?_
    refine AllReadyH.cons rfl (fun K hK => ?_) AllReadyH.nil
    go_simp
    refine (oneIf_at wb W.drew).mono ?_
    rintro x w2 ⟨rfl, hw2⟩
    rw [hw2]
    clear hw2 w2
    refine hK.out _ _ hS0 (fun hHeld => ?_)
    clear hK K
    (try simp only [Act.put, lqa, lqb, lqc, lqd, lqe, lqf])
    obtain ⟨V, hV⟩ : ∃ V, V = (W.alloc (.cells #[.int .i64 k, .int .i64 f, .int .i64 (oneB wb)] 3)).drew := ⟨_, rfl⟩
    have hbV : Below W.drew.heap.size W.drew V := by rw [hV]; exact Ca.below_alloc W.drew _
    have hXV := (hbV.block _ (lt_of_heap HX0.out)).trans HX0.out
    have hZ : V.heap[W.heap.size]? = some (.cells #[.int .i64 k, .int .i64 f, .int .i64 (oneB wb)] 3) := by rw [hV]; exact heap_alloc_new W _
    have hSV : V.cell? ⟨X, 0, none⟩ = some (.int .i64 f) ∧ V.cell? ⟨X, 1, none⟩ = some (.bool wb) := by rw [cell_of_heap hXV, cell_of_heap hXV]; exact ⟨rfl, rfl⟩
    have hrow := row_at [(k : Int), f, oneB wb] 3 W.heap.size 3 V rfl (fun j x hj => by
      have hj3 : j < 3 := (List.getElem?_eq_some_iff.1 hj).1
      obtain ⟨⟨r1, r2⟩, r3, r4⟩ := HRange.out
      rw [cell_of_heap hZ]
      have : j = 0 ∨ j = 1 ∨ j = 2 := by omega
      rcases this with rfl | rfl | rfl <;> (simp at hj; subst hj; exact ⟨rfl, by omega, by omega⟩)) (by omega)
    have HXV : Hid _ := hXV
    have HOV : Hid (OW V w.heap.size _ (seesP S.F e k)) := OW.below HOd.out hbV
    have HBV : Hid (Below w.heap.size w V) := HBd.out.trans (hbV.mono HBd.out.size)
    clear hbV hXV hZ HOd HBd HX0
    refine wpAnyH_ready (rs := [7]) (by kernel_rfl) (by simp) ?_
    refine AllReadyH.cons rfl (fun K hK => ?_) AllReadyH.nil
    go_simp
    rw [← hV]
    clear hV
    refine hK.out _ _ hSV (fun hHeld => ?_)
    clear hK K
    (try simp only [Act.put, lqa, lqb, lqc, lqd, lqe, lqf])
    refine wpAnyH_ready (rs := [8]) (by kernel_rfl) (by simp) ?_
    refine AllReadyH.cons rfl (fun K hK => ?_) AllReadyH.nil
    go_simp
    refine hrow.mono ?_
    rintro x w2 ⟨cp, rfl, ho2, hb2⟩
    have hO2 := OW.below HOV.out hb2
    have hl := HSl.out
    obtain ⟨a', c', w3, hrun, hO3, hB3, hg3⟩ := grow_words hO2 (ho2.urow.rdv) (by simp only [List.length_cons, List.length_nil]; omega) (Nat.le_trans HBV.out.size hb2.size)
    have hX2 := (hb2.block _ (lt_of_heap HXV.out)).trans HXV.out
    have hX3 := OW.other hO2 hX2 (by decide) hg3
    have hS2 : w2.cell? ⟨X, 0, none⟩ = some (.int .i64 f) ∧ w2.cell? ⟨X, 1, none⟩ = some (.bool wb) := by rw [cell_of_heap hX2, cell_of_heap hX2]; exact ⟨rfl, rfl⟩
    have hS3 : w3.cell? ⟨X, 0, none⟩ = some (.int .i64 f) ∧ w3.cell? ⟨X, 1, none⟩ = some (.bool wb) := by rw [cell_of_heap hX3, cell_of_heap hX3]; exact ⟨rfl, rfl⟩
    have HRun : Hid (∀ ty, (Builtin.append_ #[27, 27] ty #[.slice a (seesP S.F e k).length c, .slice (some ⟨V.heap.size, 0, none⟩) 3 cp]).run Tryz.prog w2 = .ok (.slice a' ((seesP S.F e k).length + 3) c') w3) := hrun
    have HO3 : Hid (OW w3 w.heap.size (.slice a' ((seesP S.F e k).length + 3) c') (seesP S.F e k ++ [(k : Int), f, oneB wb])) := hO3
    have HB3 : Hid (Below w.heap.size w w3) := (HBV.out.trans (hb2.mono HBV.out.size)).trans hB3
    clear hrow ho2 hb2 hO2 hl hrun hO3 hB3 hg3 hX2 hX3 HOV HBV HXV
    refine hK.out _ _ hS2 (fun hHeld => ?_)
    clear hK K
    (try simp only [Act.put, lqa, lqb, lqc, lqd, lqe, lqf])
    refine wpAnyH_ready (rs := [9]) (by kernel_rfl) (by simp) ?_
    refine AllReadyH.cons rfl (fun K hK => ?_) AllReadyH.nil
    refine Ip.step_append_eq rfl (.tmp 23) (.tmp 31) 27 rfl (.slice a (seesP S.F e k).length c) (.slice (some ⟨V.heap.size, 0, none⟩) 3 cp) (.slice a' ((seesP S.F e k).length + 3) c') (by rfl) (by rfl) HRun.out ?_
    refine hK.out _ _ hS3 (fun hHeld => ?_)
    clear hK K
    (try simp only [Act.put, lqa, lqb, lqc, lqd, lqe, lqf])
    refine tkz [10] ?_
    iterate 1
     refine tky (v := ?_) rfl (by kernel_rfl) (by kernel_rfl) (by kernel_rfl) (fun _ _ _ h => h) (Or.inl ⟨by kernel_rfl, ?_⟩) (by assumption) ?_
     rotate_left
     ·(intro w hSw; (try dsimp only at hSw); go_simp) <;> with_reducible rfl
     (try simp only [Act.put, lqa, lqb, lqc, lqd, lqe, lqf])
    refine tkw ?_
    refine wpAnyH_done (by kernel_rfl) ?_ _
    clear hHeld
    go_wp2
    go_roundw
    case rel => exact ⟨k + 1, by omega, by go_num, by rw [HY.out]; exact HO3.out, HB3.out⟩
    case measure => simp [intOf]; omega
  ·obtain rfl : k = 4 := by omega
   have HO : Hid (OW _ _ _ _) := hO
   clear hO
   go_wp2
   go_ret
   exact ⟨_, rfl, HO.out, hB⟩
end
end Go.Proofs.YtbhpafgoofkkmaaGreatDoor
namespace Go.Proofs.YtbhpafgoofkkmaaGreatDoor
open Go.RowKit
def extW (l : Xd.Lines) (ds : List Int) (i : Nat) : Nat → List Int
 | 0 => []
 | k + 1 => extW l ds i k ++ Xd.lookW l ds (i + k)
def slotX (l : Xd.Lines) (ds : List Int) (C : Ca.Tab) (e : Int) (s : Nat) : List Int := if (Ca.getT C e s).is = true then [(s : Int), (Ca.getT C e s).id, (Ca.getT C e s).len, (Ca.getT C e s).rights] ++ extW l ds (Ca.getT C e s).id.toNat (Ca.getT C e s).len.toNat else []
def seesX (l : Xd.Lines) (ds : List Int) (C : Ca.Tab) (e : Int) : Nat → List Int
 | 0 => []
 | k + 1 => seesX l ds C e k ++ slotX l ds C e (k + 1)
theorem extW_len {n : Nat} {l : Xd.Lines} {ds : List Int} (h : Xd.LInv n l) (hv : ds.length = n * 32) (i : Nat) : ∀ k, i + k ≤ n → (extW l ds i k).length = 32 * k
 | 0, _ => rfl
 | k + 1, hk => by
  have h1 := extW_len h hv i k (by omega)
  have h2 := Xd.lookW_len h hv (b := i + k) (by omega)
  simp [extW]
  omega
theorem slotX_len {n : Nat} {l : Xd.Lines} {ds : List Int} {C : Ca.Tab} (h : Xd.LInv n l) (hv : ds.length = n * 32) (hC : Xd.XInv C n) (e : Int) (s : Nat) : (slotX l ds C e s).length ≤ 4 + 32 * n := by
 unfold slotX
 split
 ·rename_i hi
  obtain ⟨_, h1, h2, h3, _⟩ := hC.get hi
  have := extW_len h hv (Ca.getT C e s).id.toNat (Ca.getT C e s).len.toNat (by omega)
  simp
  omega
 ·simp
theorem seesX_len {n : Nat} {l : Xd.Lines} {ds : List Int} {C : Ca.Tab} (h : Xd.LInv n l) (hv : ds.length = n * 32) (hC : Xd.XInv C n) (e : Int) : ∀ k, (seesX l ds C e k).length ≤ (4 + 32 * n) * k
 | 0 => by simp [seesX]
 | k + 1 => by
  have h1 := seesX_len h hv hC e k
  have h2 := slotX_len h hv hC e (k + 1)
  simp [seesX]
  rw [Nat.mul_add, Nat.mul_one]
  omega
theorem seesX_no {l : Xd.Lines} {ds : List Int} {C : Ca.Tab} {e : Int} {k : Nat} (h : (Ca.getT C e (k + 1 : Nat)).is = false) : seesX l ds C e (k + 1) = seesX l ds C e k := by
 show seesX l ds C e k ++ slotX l ds C e (k + 1) = _
 unfold slotX
 rw [if_neg (by rw [h]; decide), List.append_nil]
theorem seesX_yes {l : Xd.Lines} {ds : List Int} {C : Ca.Tab} {e : Int} {k : Nat} (h : (Ca.getT C e (k + 1 : Nat)).is = true) : seesX l ds C e (k + 1) = (seesX l ds C e k ++ [((k + 1 : Nat) : Int), (Ca.getT C e (k + 1 : Nat)).id, (Ca.getT C e (k + 1 : Nat)).len, (Ca.getT C e (k + 1 : Nat)).rights]) ++ extW l ds (Ca.getT C e (k + 1 : Nat)).id.toNat (Ca.getT C e (k + 1 : Nat)).len.toNat := by
 show seesX l ds C e k ++ slotX l ds C e (k + 1) = _
 unfold slotX
 rw [if_pos h, List.append_assoc]
section
variable {w w1 w2 : World} {Kb : Nat} {L : XL} {S : XS}
theorem ExoAt.over {m1 : Nat} (h0 : ExoAt w Kb L S) (h1 : ExoAt w1 Kb L (S.mv m1)) (hu : Upd L.D.b w w1) (hb : Below w.heap.size w1 w2) : ExoAt w2 Kb L (S.mv m1) ∧ Upd L.D.b w w2 := by
 have hu2 : Upd L.D.b w w2 := ⟨hb.os.trans hu.os, hb.tape.trans hu.tape, hb.output.trans hu.output, Nat.le_trans hu.size hb.size, fun k hk hn => (hb.block k hk).trans (hu.block k hk hn)⟩
 obtain ⟨gt, pt, hd, q1, q2⟩ := h1.disk.disk
 obtain ⟨_, _, hd0, _⟩ := h0.disk.disk
 have b0 : L.D.b < w.heap.size := lt_of_heap hd0.head
 have g0 : L.D.g < w.heap.size := lt_of_heap hd0.row
 exact ⟨h0.updD (h0.disk.updD (m' := m1) (hd.keep (hb.block _ b0) (hb.block _ g0)) q1 q2 (hu2.p _ (Or.inl rfl))) (Xd.updB hu2), hu2⟩
set_option maxHeartbeats 8000000 in
theorem seesExtents_at (h : ExoAt w Kb L S) (e : Int) (hm : S.m + 64 * S.d ≤ 900000) :
  Calls Tryz.prog 39 #[ptr Kb, .int .i64 e] w fun x w' => ∃ v m', x = .returned v ∧ OW w' w.heap.size v (seesX S.l S.ds S.C e 64) ∧ ExoAt w' Kb L (S.mv m') ∧ m' ≤ S.m + 64 * S.d ∧ Upd L.D.b w w' := by
 have HX : Hid _ := h
 have HM : Hid _ := hm
 clear h hm
 go_enter Tryz.func39, Tryz.ntmps39
 go_wp2
 go_loopw [5, 6] (fun v s wr => ∃ (k m' : Nat), k ≤ 64 ∧ s = .int .i64 (k + 1 : Nat) ∧ OW wr w.heap.size v (seesX S.l S.ds S.C e k) ∧ ExoAt wr Kb L (S.mv m') ∧ m' ≤ S.m + k * S.d ∧ Upd L.D.b w wr) (fun _ s _ => 65 - (intOf s).toNat)
 case atStart => exact ⟨0, S.m, by omega, rfl, OW.nil _ _, HX.out, by omega, Upd.refl _ _⟩
 case round =>
  obtain ⟨k, m', hk, rfl, hO, hE, hm', hU⟩ := hrel
  by_cases hlt : k < 64
  ·have k3 := hE.k3
   have hcap := Xd.xcap_at hE.disk e (k + 1 : Nat)
   have hinv := HX.out.disk.inv
   have HI : Hid ((Ca.getT S.C e (k + 1 : Nat)).is = true → Xd.OkX S.d (Ca.getT S.C e (k + 1 : Nat))) := fun hi => hinv.get hi
   have HN2 : Hid (S.d ≤ 1024) := HX.out.disk.n2
   have HNo : Hid ((Ca.getT S.C e (k + 1 : Nat)).is = false → seesX S.l S.ds S.C e (k + 1) = seesX S.l S.ds S.C e k) := fun hi => seesX_no hi
   have HYe : Hid ((Ca.getT S.C e (k + 1 : Nat)).is = true → seesX S.l S.ds S.C e (k + 1) = (seesX S.l S.ds S.C e k ++ [((k + 1 : Nat) : Int), (Ca.getT S.C e (k + 1 : Nat)).id, (Ca.getT S.C e (k + 1 : Nat)).len, (Ca.getT S.C e (k + 1 : Nat)).rights]) ++ extW S.l S.ds (Ca.getT S.C e (k + 1 : Nat)).id.toNat (Ca.getT S.C e (k + 1 : Nat)).len.toNat) := fun hi => seesX_yes hi
   have HSl : Hid ((seesX S.l S.ds S.C e k).length ≤ (4 + 32 * S.d) * k) := seesX_len HX.out.disk.linv HX.out.disk.len hinv e k
   have hmul : (4 + 32 * S.d) * k ≤ 2100000 := by
    have h1 : 4 + 32 * S.d ≤ 32772 := by have := HN2.out; omega
    have := Nat.mul_le_mul h1 (Nat.le_of_lt hlt)
    omega
   have HSl2 : Hid ((seesX S.l S.ds S.C e k).length ≤ 2100000) := Nat.le_trans HSl.out hmul
   have HO : Hid (OW _ _ _ _) := hO
   have HE : Hid _ := hE
   have HU : Hid _ := hU
   have HM' : Hid _ := hm'
   clear hO hE hU hinv hmul HSl hm'
   generalize Ca.getT S.C e (k + 1 : Nat) = x at *
   obtain ⟨kk, id, ln, rt⟩ := x
   dsimp only [Ca.cpRow] at *
   cases hi : Ca.Cp.is ⟨kk, id, ln, rt⟩ with
   | false =>
    rw [hi] at hcap
    have HN : Hid (seesX S.l S.ds S.C e (k + 1) = seesX S.l S.ds S.C e k) := HNo.out hi
    clear hi HI HNo HYe
    go_wp2_with (go_at_call 103; refine hcap.mono ?_; rintro x w1 ⟨rfl, hb1⟩)
    go_roundw
    case rel =>
     have hb2 : Below wr.heap.size wr (w1.alloc (Obj.cells #[Value.int IntKind.i64 kk, Value.int IntKind.i64 id, Value.int IntKind.i64 ln, Value.int IntKind.i64 rt] 97)) := hb1.trans ((Ca.below_alloc _ _).mono hb1.size)
     exact ⟨k + 1, m', by omega, by go_num, by rw [HN.out]; exact OW.below HO.out hb2, HE.out.below hb2, by have := HM'.out; rw [Nat.add_mul]; omega, HU.out.trans (Upd.of_below hb2)⟩
    case measure => simp [intOf]; omega
   | true =>
    rw [hi] at hcap
    obtain ⟨-, i0, i1, i2, r0, r1⟩ := HI.out hi
    dsimp only at i0 i1 i2 r0 r1
    obtain ⟨id, rfl⟩ := nat_of id i0
    obtain ⟨ln, rfl⟩ := nat_of ln (by omega)
    have HY : Hid (seesX S.l S.ds S.C e (k + 1) = (seesX S.l S.ds S.C e k ++ [(k : Int) + 1, (id : Int), (ln : Int), rt]) ++ extW S.l S.ds id ln) := HYe.out hi
    have HRange : Hid (id + ln ≤ S.d ∧ 0 ≤ rt ∧ rt < 8) := ⟨by omega, by omega, by omega⟩
    clear hi HI HNo HYe i0 i1 i2 r0 r1
    go_wp2_with fail
    refine hcap.mono ?_
    rintro x w1 ⟨rfl, hb1⟩
    obtain ⟨W, hW⟩ : ∃ W, W = w1.alloc (.cells #[.int .i64 kk, .int .i64 id, .int .i64 ln, .int .i64 rt] 97) := ⟨_, rfl⟩
    obtain ⟨V, hV⟩ : ∃ V, V = W.alloc (.cells #[.int .i64 ((k : Int) + 1), .int .i64 id, .int .i64 ln, .int .i64 rt] 3) := ⟨_, rfl⟩
    have hbW : Below w1.heap.size w1 W := by rw [hW]; exact Ca.below_alloc _ _
    have hbV : Below W.heap.size W V := by rw [hV]; exact Ca.below_alloc _ _
    have hsW : W.heap.size = w1.heap.size + 1 := by rw [hW]; simp
    have hsV : V.heap.size = w1.heap.size + 1 + 1 := by rw [hV]; simp [hsW]
    have hX : V.heap[w1.heap.size]? = some (.cells #[.int .i64 kk, .int .i64 id, .int .i64 ln, .int .i64 rt] 97) := (hbV.block _ (by omega)).trans (by rw [hW]; exact heap_alloc_new _ _)
    have hZ : V.heap[w1.heap.size + 1]? = some (.cells #[.int .i64 ((k : Int) + 1), .int .i64 id, .int .i64 ln, .int .i64 rt] 3) := by rw [hV, ← hsW]; exact heap_alloc_new _ _
    have hb : Below wr.heap.size wr V := (hb1.trans (hbW.mono hb1.size)).trans (hbV.mono (by have := hb1.size; omega))
    have hrow := row_at [(k : Int) + 1, (id : Int), (ln : Int), rt] 4 (w1.heap.size + 1) 4 V rfl (fun j x hj => by
      have hj3 : j < 4 := (List.getElem?_eq_some_iff.1 hj).1
      obtain ⟨r1, r3, r4⟩ := HRange.out
      have r5 := HN2.out
      rw [cell_of_heap hZ]
      have : j = 0 ∨ j = 1 ∨ j = 2 ∨ j = 3 := by omega
      rcases this with rfl | rfl | rfl | rfl <;> (simp at hj; subst hj; exact ⟨rfl, by omega, by omega⟩)) (by omega)
    have HX1 : Hid _ := hX
    have HBV : Hid (Below wr.heap.size wr V) := hb
    have HSV : Hid (w1.heap.size < V.heap.size) := by show _ < _; omega
    have HXw : Hid (w.heap.size ≤ w1.heap.size) := Nat.le_trans HU.out.size hb1.size
    have HW : Hid _ := hW
    have HV : Hid _ := hV
    clear hb1 hW hV hbW hbV hsW hsV hX hZ hb hcap
    go_wp2_with fail
    rw [← HW.out, ← HV.out]
    clear HW HV
    generalize w1.heap.size = X at *
    refine hrow.mono ?_
    rintro x w2 ⟨cp, rfl, ho2, hb2⟩
    have hO2 := (OW.below HO.out HBV.out).below hb2
    have hl := HSl2.out
    have hsz : w.heap.size ≤ w2.heap.size := Nat.le_trans HU.out.size (Nat.le_trans HBV.out.size hb2.size)
    obtain ⟨a', c', w3, hrun, hO3, hB3, hg3⟩ := grow_words hO2 (ho2.urow.rdv) (by simp only [List.length_cons, List.length_nil]; omega) hsz
    obtain ⟨a, c, rfl, _⟩ := OW.form HO.out
    have HRun : Hid (∀ ty, (Builtin.append_ #[27, 27] ty #[.slice a (seesX S.l S.ds S.C e k).length c, .slice (some ⟨V.heap.size, 0, none⟩) 4 cp]).run Tryz.prog w2 = .ok (.slice a' ((seesX S.l S.ds S.C e k).length + 4) c') w3) := hrun
    have HO3 : Hid (OW w3 w.heap.size (.slice a' ((seesX S.l S.ds S.C e k).length + 4) c') (seesX S.l S.ds S.C e k ++ [(k : Int) + 1, (id : Int), (ln : Int), rt])) := hO3
    have HX3 : Hid _ := OW.other hO2 ((hb2.block _ HSV.out).trans HX1.out) (by decide) hg3
    have hb12 : Below w.heap.size wr w3 := ((HBV.out.trans (hb2.mono HBV.out.size)).mono HU.out.size).trans hB3
    have hov := HX.out.over HE.out HU.out hb12
    have HE3 : Hid (ExoAt w3 Kb L (S.mv m')) := hov.1
    have HU3 : Hid (Upd L.D.b w w3) := hov.2
    have x1 : w3.cell? ⟨X, 1, none⟩ = some (.int .i64 id) := by rw [cell_of_heap HX3.out]; rfl
    clear hrow ho2 hb2 hO2 hl hrun hO3 hB3 hg3 HX1 HBV HSV HO HE HU k3 hov hb12 hsz
    have gl : decide ((k : Int) + 1 ≤ 64) = true := decide_eq_true (by omega)
    go_wp2_with (at_builtin; refine Ip.wpList_append_eq rfl _ _ _ rfl _ _ _ rfl rfl HRun.out ?_)
    clear x1 HRun
    generalize (seesX S.l S.ds S.C e k).length + 4 = Len at *
    go_loopw [5, 9] (fun v s wq => ∃ (j m2 : Nat), j ≤ ln ∧ s = .int .i64 (id + j : Nat) ∧ OW wq w.heap.size v ((seesX S.l S.ds S.C e k ++ [(k : Int) + 1, (id : Int), (ln : Int), rt]) ++ extW S.l S.ds id j) ∧ ExoAt wq Kb L (S.mv m2) ∧ m2 ≤ S.m + k * S.d + j ∧ Upd L.D.b w wq ∧ wq.heap[X]? = some (.cells #[.int .i64 kk, .int .i64 id, .int .i64 ln, .int .i64 rt] 97)) (fun _ s _ => id + ln - (intOf s).toNat)
    case atStart => exact ⟨0, m', by omega, rfl, by simpa [extW] using HO3.out, HE3.out, by have := HM'.out; omega, HU3.out, HX3.out⟩
    case round =>
     clear HO3 HE3 HU3 HX3
     obtain ⟨j, m2, hj, rfl, hO, hE, hm2, hU, hXX⟩ := hrel
     have x1 := cell_of_heap (i := 1) hXX
     have x2 := cell_of_heap (i := 2) hXX
     simp only [List.getElem?_toArray, List.getElem?_cons_zero, List.getElem?_cons_succ] at x1 x2
     obtain ⟨hr1, hr2, hr3⟩ := HRange.out
     have hd2 := HN2.out
     have HXX : Hid _ := hXX
     clear hXX
     have hsum : IntKind.i64.wrap ((id : Int) + (ln : Int)) = (id : Int) + (ln : Int) := by rw [IntKind.wrap_i64]; omega
     by_cases hjl : j < ln
     ·have k3 := hE.k3
      have hmk : S.m + k * S.d + j ≤ S.m + 64 * S.d := by
       have : k * S.d + S.d ≤ 64 * S.d := by
        have := Nat.mul_le_mul_right S.d (show k + 1 ≤ 64 by omega)
        rw [Nat.add_mul] at this
        omega
       omega
      have hmb := HM.out
      have hwd := Xd.xwords_at hE.disk ((id + j : Nat) : Int) (by unfold Ca.I64; omega) (show m2 ≤ 900000 by omega)
      have hww : Xd.wordsW S.d S.l S.ds ((id + j : Nat) : Int) = Xd.lookW S.l S.ds (id + j) := by
       unfold Xd.wordsW
       rw [if_pos (by omega)]
       rfl
      rw [hww] at hwd
      have HJ : Hid (((seesX S.l S.ds S.C e k ++ [(k : Int) + 1, (id : Int), (ln : Int), rt]) ++ extW S.l S.ds id (j + 1)) = ((seesX S.l S.ds S.C e k ++ [(k : Int) + 1, (id : Int), (ln : Int), rt]) ++ extW S.l S.ds id j) ++ Xd.lookW S.l S.ds (id + j)) := by
       show _ = _
       rw [List.append_assoc _ (extW S.l S.ds id j)]
       rfl
      have HlE : Hid (((seesX S.l S.ds S.C e k ++ [(k : Int) + 1, (id : Int), (ln : Int), rt]) ++ extW S.l S.ds id j).length ≤ 2200000) := by
       show _ ≤ _
       have := extW_len HX.out.disk.linv HX.out.disk.len id j (by omega)
       have := HSl2.out
       simp
       omega
      have HlW : Hid ((Xd.lookW S.l S.ds (id + j)).length = 32) := Xd.lookW_len HX.out.disk.linv HX.out.disk.len (by omega)
      have HO : Hid (OW _ _ _ _) := hO
      have HE : Hid _ := hE
      have HU : Hid _ := hU
      have HM2 : Hid _ := hm2
      clear hO hE hU hm2 hmk hmb hww
      generalize (seesX S.l S.ds S.C e k ++ [(k : Int) + 1, (id : Int), (ln : Int), rt]) ++ extW S.l S.ds id j = A0 at *
      generalize Xd.lookW S.l S.ds (id + j) = Wj at *
      obtain ⟨a, c, rfl, _⟩ := OW.form HO.out
      go_wp2_with fail
      refine hwd.mono ?_
      rintro x w4 ⟨u, rfl, hu4, hk4, hU4⟩
      have hO4 : OW w4 w.heap.size (.slice a A0.length c) A0 := OW.at HO.out (fun g hg => by
        obtain ⟨cs, hcs⟩ := Ip.own_type HO.out hg
        refine hU4.block g (lt_of_heap hcs) ?_
        obtain ⟨_, _, hd4, _⟩ := HE.out.disk.disk
        exact heap_apart hcs hd4.head (by decide))
      have hU4w : Upd L.D.b w w4 := HU.out.trans hU4
      obtain ⟨a5, c5, w5, hrun5, hO5, hB5, hg5⟩ := grow_words hO4 hu4.rdv (by have := HlE.out; have := HlW.out; omega) hU4w.size
      have hX4 : w4.heap[X]? = some (.cells #[.int .i64 kk, .int .i64 id, .int .i64 ln, .int .i64 rt] 97) := by
       obtain ⟨_, _, hd4, _⟩ := HE.out.disk.disk
       exact (hU4.block X (lt_of_heap HXX.out) (heap_apart HXX.out hd4.head (by decide))).trans HXX.out
      have HX5 : Hid _ := OW.other hO4 hX4 (by decide) hg5
      have hE4 := HE.out.updD hk4 (Xd.updB hU4)
      have hov := HX.out.over (m1 := m2 + 1) hE4 hU4w hB5
      have HRun5 : Hid (∀ ty, (Builtin.append_ #[27, 27] ty #[.slice a A0.length c, u]).run Tryz.prog w4 = .ok (.slice a5 (A0.length + Wj.length) c5) w5) := hrun5
      have HO5 : Hid (OW w5 w.heap.size (.slice a5 (A0.length + Wj.length) c5) (A0 ++ Wj)) := hO5
      have HE5 : Hid (ExoAt w5 Kb L (S.mv (m2 + 1))) := hov.1
      have HU5 : Hid (Upd L.D.b w w5) := hov.2
      have hu4' := hu4
      obtain ⟨au, cu, rfl, _⟩ := hu4'
      clear hu4 hk4 hU4 hO4 hU4w hrun5 hO5 hB5 hg5 hX4 hE4 hov hwd HO HE HU HXX
      go_wp2_with (at_builtin; refine Ip.wpList_append_eq rfl _ _ _ rfl _ _ _ rfl rfl HRun5.out ?_)
      go_roundw
      case rel => exact ⟨j + 1, m2 + 1, by omega, by go_num, by rw [HJ.out]; exact HO5.out, HE5.out, by have := HM2.out; omega, HU5.out, HX5.out⟩
      case measure => simp [intOf]; omega
     ·obtain rfl : j = ln := by omega
      have HO : Hid (OW _ _ _ _) := hO
      have HE : Hid _ := hE
      have HU : Hid _ := hU
      have HM2 : Hid _ := hm2
      clear hO hE hU hm2
      go_wp2
      go_roundw
      case rel => exact ⟨k + 1, m2, by omega, by go_num, by rw [HY.out]; exact HO.out, HE.out, by have := HM2.out; rw [Nat.add_mul]; omega, HU.out⟩
      case measure => simp [intOf]; omega
  ·obtain rfl : k = 64 := by omega
   have HO : Hid (OW _ _ _ _) := hO
   have HE : Hid _ := hE
   clear hO hE
   go_wp2
   go_ret
   exact ⟨_, m', rfl, HO.out, HE.out, by omega, hU⟩
end
end Go.Proofs.YtbhpafgoofkkmaaGreatDoor
namespace Go.Proofs.YtbhpafgoofkkmaaGreatDoor
open Go.RowKit
def seesV (S : XS) (e : Int) : List Int := if En.isB S.E e = true then catL [[1], seesF S.n S.T S.vs e 64, seesP S.F e 4, seesX S.l S.ds S.C e 64, [((Ip.qat S.Q e).length : Int)]] else []
theorem URow.bel {M : Nat} {w w' : World} {v : Value} {xs : List Int} (h : URow M w v xs) (hb : Below w.heap.size w w') : URow M w' v xs := h.keepT (UpdP.of_below (P := fun _ => False) hb) (fun _ e => e.elim)
theorem URow.upd {M b : Nat} {w w' : World} {v : Value} {xs : List Int} {cs : Array Value} {t : TypeId} {fr : Nat × Nat} (h : URow M w v xs) (hu : Upd b w w') (hb : w.heap[b]? = some (.cells cs t fr)) (ht : t ≠ 42) : URow M w' v xs :=
 h.keepT (hu.p (fun k => k = b) rfl) (fun k e cur fr hk => heap_apart hk hb (fun q => ht q.symm) e)
section
variable {w : World} {Kb : Nat} {L : XL} {S : XS}
set_option maxHeartbeats 8000000 in
theorem sees_at (h : ExoAt w Kb L S) (e : Int) (hm : S.m + 64 * S.d ≤ 900000) :
  Calls Tryz.prog 12 #[ptr Kb, .int .i64 e] w fun x w' => ∃ v m', x = .returned v ∧ URow w.heap.size w' v (seesV S e) ∧ ExoAt w' Kb L (S.mv m') ∧ S.m ≤ m' ∧ m' ≤ S.m + 64 * S.d ∧ Upd L.D.b w w' := by
 have k1 := h.k1
 have hIs := En.is_at L.eb L.eg S.E S.V e w h.env
 have HX : Hid _ := h
 have HM : Hid _ := hm
 cases hi : En.isB S.E e with
 | false =>
  have HV : Hid (seesV S e = []) := by show _ = _; unfold seesV; rw [hi]; rfl
  rw [hi] at hIs
  clear h hm hi
  go_enter Tryz.func12, Tryz.ntmps12
  go_wp2_with (go_at_call 24; refine hIs.mono ?_; rintro x w1 ⟨rfl, hw⟩; rw [hw]; clear hw w1)
  go_ret
  exact ⟨_, S.m, rfl, by rw [HV.out]; exact URow.nil _ _, HX.out, Nat.le_refl _, by omega, Upd.refl _ _⟩
 | true =>
  have HV : Hid (seesV S e = catL [[1], seesF S.n S.T S.vs e 64, seesP S.F e 4, seesX S.l S.ds S.C e 64, [((Ip.qat S.Q e).length : Int)]]) := by show _ = _; unfold seesV; rw [hi]; rfl
  rw [hi] at hIs
  clear h hm hi
  have hEd := HX.out.below (Below.refl w.heap.size w).drew
  obtain ⟨W, hW⟩ : ∃ W, W = (w.alloc (.cells #[.int .i64 1] 3)).drew := ⟨_, rfl⟩
  have hbW : Below w.heap.size w W := by rw [hW]; exact (Ca.below_alloc w _).drew
  have hZW : W.heap[w.heap.size]? = some (.cells #[.int .i64 1] 3) := by rw [hW]; exact heap_alloc_new w _
  have hEW := HX.out.below hbW
  have hrow1 := row_at [1] 1 w.heap.size 1 W rfl (fun j x hj => by
    have hj3 : j < 1 := (List.getElem?_eq_some_iff.1 hj).1
    rw [cell_of_heap hZW]
    have : j = 0 := by omega
    subst this
    simp at hj
    subst hj
    exact ⟨rfl, by omega, by omega⟩) (by omega)
  have s0 := hEd.k2
  have sW := hEW.k2
  have HbW : Hid _ := hbW
  clear hEd hbW hZW hEW
  go_enter Tryz.func12, Tryz.ntmps12
  go_wp2_with (first | (go_at_call 24; refine hIs.mono ?_; rintro x w1 ⟨rfl, hw⟩; rw [hw]; clear hw w1) | fail)
  clear hIs k1
  refine wp_region_held_drew (S := fun w' => w'.cell? ⟨Kb, 2, none⟩ = some (ptr L.ib)) (by kernel_rfl) s0 (fun hHeld => ?_)
  refine tkz [2, 3, 5, 6, 8, 9, 11, 12, 13, 14, 15] ?_
  iterate 11
   refine tky (v := ?_) rfl (by kernel_rfl) (by kernel_rfl) (by kernel_rfl) (fun _ _ _ h => h) (Or.inl ⟨by kernel_rfl, ?_⟩) (by assumption) ?_
   rotate_left
   ·(intro w hSw; (try dsimp only at hSw); go_simp) <;> with_reducible rfl
   (try simp only [Act.put, lqa, lqb, lqc, lqd, lqe, lqf])
  refine tkw ?_
  refine wpAnyH_ready (rs := [0]) (by kernel_rfl) (by simp) ?_
  refine AllReadyH.cons rfl (fun K hK => ?_) AllReadyH.nil
  go_simp
  rw [← hW]
  clear hW
  refine hK.out _ _ sW (fun hHeld => ?_)
  clear hK K
  (try simp only [Act.put, lqa, lqb, lqc, lqd, lqe, lqf])
  refine wpAnyH_ready (rs := [1]) (by kernel_rfl) (by simp) ?_
  refine AllReadyH.cons rfl (fun K hK => ?_) AllReadyH.nil
  go_simp
  refine hrow1.mono ?_
  rintro x w1 ⟨cp1, rfl, ho1, hb1⟩
  have hb01 : Below w.heap.size w w1 := HbW.out.trans (hb1.mono HbW.out.size)
  have hE1 := HX.out.below hb01
  have s1 := hE1.k2
  have HR1 : Hid (URow 0 w1 _ [1]) := ho1.urow.mono (Nat.zero_le _)
  have hF := seesFrames_at hE1 e
  have HB1 : Hid _ := hb01
  clear ho1 hb1 hb01 hE1 hrow1 HbW
  refine hK.out _ _ s1 (fun hHeld => ?_)
  clear hK K
  (try simp only [Act.put, lqa, lqb, lqc, lqd, lqe, lqf])
  refine wpAnyH_ready (rs := [4]) (by kernel_rfl) (by simp) ?_
  refine AllReadyH.cons rfl (fun K hK => ?_) AllReadyH.nil
  go_simp
  refine hF.mono ?_
  rintro x w2 ⟨v2, rfl, ho2, hb2⟩
  have hb02 : Below w.heap.size w w2 := HB1.out.trans (hb2.mono HB1.out.size)
  have hE2 := HX.out.below hb02
  have s2 := hE2.k2
  have HR1b : Hid (URow 0 w2 _ [1]) := URow.bel HR1.out hb2
  have HR2 : Hid (URow 0 w2 v2 (seesF S.n S.T S.vs e 64)) := ho2.urow.mono (Nat.zero_le _)
  have hP := seesPages_at hE2 e
  have HB2 : Hid _ := hb02
  clear ho2 hb2 hb02 hE2 hF HR1 HB1
  refine hK.out _ _ s2 (fun hHeld => ?_)
  clear hK K
  (try simp only [Act.put, lqa, lqb, lqc, lqd, lqe, lqf])
  refine wpAnyH_ready (rs := [7]) (by kernel_rfl) (by simp) ?_
  refine AllReadyH.cons rfl (fun K hK => ?_) AllReadyH.nil
  go_simp
  refine hP.mono ?_
  rintro x w3 ⟨v3, rfl, ho3, hb3⟩
  have hb03 : Below w.heap.size w w3 := HB2.out.trans (hb3.mono HB2.out.size)
  have hE3 := HX.out.below hb03
  have s3 := hE3.k2
  have HR1c : Hid (URow 0 w3 _ [1]) := URow.bel HR1b.out hb3
  have HR2c : Hid (URow 0 w3 v2 (seesF S.n S.T S.vs e 64)) := URow.bel HR2.out hb3
  have HR3 : Hid (URow 0 w3 v3 (seesP S.F e 4)) := ho3.urow.mono (Nat.zero_le _)
  have hXt := seesExtents_at hE3 e HM.out
  have HB3 : Hid _ := hb03
  have HE3 : Hid _ := hE3
  clear ho3 hb3 hb03 hE3 hP HR1b HR2 HB2
  refine hK.out _ _ s3 (fun hHeld => ?_)
  clear hK K
  (try simp only [Act.put, lqa, lqb, lqc, lqd, lqe, lqf])
  refine wpAnyH_ready (rs := [10]) (by kernel_rfl) (by simp) ?_
  refine AllReadyH.cons rfl (fun K hK => ?_) AllReadyH.nil
  go_simp
  refine hXt.mono ?_
  rintro x w4 ⟨v4, m4, rfl, ho4, hE4, hm4, hu4⟩
  have s4 := hE4.k2
  obtain ⟨_, _, hd3, _⟩ := HE3.out.disk.disk
  have HR1d : Hid (URow 0 w4 _ [1]) := URow.upd HR1c.out hu4 hd3.head (by decide)
  have HR2d : Hid (URow 0 w4 v2 (seesF S.n S.T S.vs e 64)) := URow.upd HR2c.out hu4 hd3.head (by decide)
  have HR3d : Hid (URow 0 w4 v3 (seesP S.F e 4)) := URow.upd HR3.out hu4 hd3.head (by decide)
  have HR4 : Hid (URow 0 w4 v4 (seesX S.l S.ds S.C e 64)) := ho4.urow.mono (Nat.zero_le _)
  have HU4 : Hid (Upd L.D.b w w4) := (Upd.of_below HB3.out).trans hu4
  have hWt := Ip.waiting_at L.iB L.ib S.Q e w4 hE4.ipc
  have HE4 : Hid _ := hE4
  have HM4 : Hid (m4 ≤ S.m + 64 * S.d) := hm4
  have HLq : Hid ((Ip.qat S.Q e).length ≤ 4) := hE4.ipc.len e
  clear ho4 hE4 hm4 hu4 hd3 hXt HR1c HR2c HR3 HB3 HE3
  refine hK.out _ _ s4 (fun hHeld => ?_)
  clear hK K
  (try simp only [Act.put, lqa, lqb, lqc, lqd, lqe, lqf])
  refine wpAnyH_ready (rs := [16]) (by kernel_rfl) (by simp) ?_
  refine AllReadyH.cons rfl (fun K hK => ?_) AllReadyH.nil
  go_simp
  refine hWt.mono ?_
  rintro x w5 ⟨rfl, hw⟩
  rw [hw]
  clear hw w5 hWt
  refine hK.out _ _ s4 (fun hHeld => ?_)
  clear hK K
  (try simp only [Act.put, lqa, lqb, lqc, lqd, lqe, lqf])
  generalize (Ip.qat S.Q e).length = q at *
  obtain ⟨V, hV⟩ : ∃ V, V = w4.alloc (.cells #[.int .i64 q] 3) := ⟨_, rfl⟩
  have hbV : Below w4.heap.size w4 V := by rw [hV]; exact Ca.below_alloc _ _
  have hZV : V.heap[w4.heap.size]? = some (.cells #[.int .i64 q] 3) := by rw [hV]; exact heap_alloc_new _ _
  have sV := (HE4.out.below hbV).k2
  have hrow5 := row_at [(q : Int)] 1 w4.heap.size 1 V rfl (fun j x hj => by
    have hj3 : j < 1 := (List.getElem?_eq_some_iff.1 hj).1
    rw [cell_of_heap hZV]
    have : j = 0 := by omega
    subst this
    simp at hj
    subst hj
    exact ⟨rfl, by omega, by have := HLq.out; omega⟩) (by omega)
  have HbV : Hid _ := hbV
  clear hbV hZV
  refine wpAnyH_ready (rs := [17]) (by kernel_rfl) (by simp) ?_
  refine AllReadyH.cons rfl (fun K hK => ?_) AllReadyH.nil
  go_simp
  rw [← hV]
  clear hV
  refine hK.out _ _ sV (fun hHeld => ?_)
  clear hK K
  (try simp only [Act.put, lqa, lqb, lqc, lqd, lqe, lqf])
  refine wpAnyH_ready (rs := [18]) (by kernel_rfl) (by simp) ?_
  refine AllReadyH.cons rfl (fun K hK => ?_) AllReadyH.nil
  go_simp
  refine hrow5.mono ?_
  rintro x w5 ⟨cp5, rfl, ho5, hb5⟩
  have hb45 : Below w4.heap.size w4 w5 := HbV.out.trans (hb5.mono HbV.out.size)
  have hE5 := HE4.out.below hb45
  have s5 := hE5.k2
  have h1' := HR1d.out
  have h2' := HR2d.out
  have h3' := HR3d.out
  have h4' := HR4.out
  obtain ⟨a2, c2, rfl, _⟩ := h2'
  obtain ⟨a3, c3, rfl, _⟩ := h3'
  obtain ⟨a4, c4, rfl, _⟩ := h4'
  obtain ⟨Z, hZ⟩ : ∃ Z, Z = w5.alloc (.cells #[.slice (some ⟨W.heap.size, 0, none⟩) 1 cp1, .slice a2 (seesF S.n S.T S.vs e 64).length c2, .slice a3 (seesP S.F e 4).length c3, .slice a4 (seesX S.l S.ds S.C e 64).length c4, .slice (some ⟨V.heap.size, 0, none⟩) 1 cp5] 27) := ⟨_, rfl⟩
  have hbZ : Below w5.heap.size w5 Z := by rw [hZ]; exact Ca.below_alloc _ _
  have hcZ : Z.heap[w5.heap.size]? = some (.cells #[.slice (some ⟨W.heap.size, 0, none⟩) 1 cp1, .slice a2 (seesF S.n S.T S.vs e 64).length c2, .slice a3 (seesP S.F e 4).length c3, .slice a4 (seesX S.l S.ds S.C e 64).length c4, .slice (some ⟨V.heap.size, 0, none⟩) 1 cp5] 27) := by rw [hZ]; exact heap_alloc_new _ _
  have hb4Z : Below w4.heap.size w4 Z := hb45.trans (hbZ.mono hb45.size)
  have sZ := (HE4.out.below hb4Z).k2
  have hcc := concat_at [[1], seesF S.n S.T S.vs e 64, seesP S.F e 4, seesX S.l S.ds S.C e 64, [(q : Int)]] 5 w5.heap.size 5 Z rfl (fun j r hj => by
    have hj5 : j < 5 := (List.getElem?_eq_some_iff.1 hj).1
    rw [cell_of_heap hcZ]
    have : j = 0 ∨ j = 1 ∨ j = 2 ∨ j = 3 ∨ j = 4 := by omega
    rcases this with rfl | rfl | rfl | rfl | rfl <;> (simp at hj; subst hj)
    · exact ⟨_, rfl, (URow.bel HR1d.out hb4Z).rdv⟩
    · exact ⟨_, rfl, (URow.bel HR2d.out hb4Z).rdv⟩
    · exact ⟨_, rfl, (URow.bel HR3d.out hb4Z).rdv⟩
    · exact ⟨_, rfl, (URow.bel HR4.out hb4Z).rdv⟩
    · exact ⟨_, rfl, (URow.bel ho5.urow hbZ).rdv⟩) (by simp [catL]) (by
      have h1 := seesF_len S.n S.T S.vs e 64
      have h2 := seesP_len S.F e 4
      have h3 := seesX_len HX.out.disk.linv HX.out.disk.len HX.out.disk.inv e 64
      have h4 := HX.out.disk.n2
      simp [catL]
      omega) (by omega)
  have HEZ : Hid (ExoAt Z Kb L (S.mv m4)) := HE4.out.below hb4Z
  have HUZ : Hid (Upd L.D.b w Z) := HU4.out.trans (Upd.of_below hb4Z)
  clear ho5 hb5 hb45 hE5 hbZ hcZ hb4Z hrow5 HR1d HR2d HR3d HR4 HbV HE4 HU4
  refine hK.out _ _ s5 (fun hHeld => ?_)
  clear hK K
  (try simp only [Act.put, lqa, lqb, lqc, lqd, lqe, lqf])
  refine wpAnyH_ready (rs := [19]) (by kernel_rfl) (by simp) ?_
  refine AllReadyH.cons rfl (fun K hK => ?_) AllReadyH.nil
  go_simp
  rw [← hZ]
  clear hZ
  refine hK.out _ _ sZ (fun hHeld => ?_)
  clear hK K
  (try simp only [Act.put, lqa, lqb, lqc, lqd, lqe, lqf])
  refine wpAnyH_ready (rs := [20]) (by kernel_rfl) (by simp) ?_
  refine AllReadyH.cons rfl (fun K hK => ?_) AllReadyH.nil
  go_simp
  refine hcc.mono ?_
  rintro x w6 ⟨v6, rfl, ho6, hb6⟩
  have s6 := (HEZ.out.below hb6).k2
  obtain ⟨a6, c6, rfl, _⟩ := ho6.form
  have HO6 : Hid (OW w6 Z.heap.size _ _) := ho6
  have HB6 : Hid _ := hb6
  clear ho6 hb6 hcc
  refine hK.out _ _ s6 (fun hHeld => ?_)
  clear hK K
  (try simp only [Act.put, lqa, lqb, lqc, lqd, lqe, lqf])
  refine tkz [21] ?_
  iterate 1
   refine tky (v := ?_) rfl (by kernel_rfl) (by kernel_rfl) (by kernel_rfl) (fun _ _ _ h => h) (Or.inl ⟨by kernel_rfl, ?_⟩) (by assumption) ?_
   rotate_left
   ·(intro w hSw; (try dsimp only at hSw); go_simp) <;> with_reducible rfl
   (try simp only [Act.put, lqa, lqb, lqc, lqd, lqe, lqf])
  refine tkw ?_
  refine wpAnyH_done (by kernel_rfl) ?_ _
  clear hHeld
  go_wp2
  go_ret
  have hm1 := HEZ.out.below HB6.out
  refine ⟨_, max S.m m4, rfl, ?_, ?_, Nat.le_max_left _ _, ?_, HUZ.out.trans (Upd.of_below HB6.out)⟩
  ·rw [HV.out]
   exact (OW.urow HO6.out).mono HUZ.out.size
  ·exact ⟨hm1.head, hm1.mem, hm1.env, hm1.ipc, hm1.disk.mono (Nat.le_max_right _ _), hm1.ne, hm1.lowB⟩
  ·have := HM4.out
   exact Nat.max_le.2 ⟨by omega, this⟩
end
end Go.Proofs.YtbhpafgoofkkmaaGreatDoor
