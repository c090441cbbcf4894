import Derived.Test.YtinaeifpoljfoaaGreatDoorUxP
import Derived.Test.YtinaeifpoljfoaaGreatDoorRefDiskTReB
set_option linter.all false
set_option maxRecDepth 100000
set_option maxHeartbeats 16000000
namespace Go.Proofs.YtinaeifpoljfoaaGreatDoor
open Go.RowKit
theorem disk_eq (b : Nat) (W : World) : (binOp .eql 40 (ptr b) (.pointer none)).run Tryz.prog W = .ok (.bool false) W := by kernel_rfl
theorem rdisk_eq (b : Nat) (W : World) : (binOp .eql 41 (ptr b) (.pointer none)).run Tryz.prog W = .ok (.bool false) W := by kernel_rfl
theorem both_eq (b : Nat) (W : World) : (binOp .eql 34 (ptr b) (.pointer none)).run Tryz.prog W = .ok (.bool false) W := by kernel_rfl
theorem rmake0_at {w : World} {bx gx cap n m : Nat} (h : Rk w bx gx cap n (List.replicate (n * 32) 0) m) (hm : m ≤ 900000000000) (h1 : 13 ≤ n) (h2 : n ≤ 64) :
  Calls Tryz.prog 32 #[ptr bx, .int .i64 (n : Int), .slice none 0 0] w fun e w' => e = .returned (.int .i64 0) ∧ (∃ vs, Rk w' bx gx cap n vs (m + 20) ∧ Holds vs (F0 n)) ∧ UpdP (fun k => k = bx ∨ k = gx) w w' := by
 have hF := eFormat_at h hm h1 h2;clear h
 go_enter Tryz.func32, Tryz.ntmps32
 go_wp2_with fail
 refine hF.mono ?_;rintro e w1 ⟨rfl, hR, hU⟩;have HE : Hid ((∃ vs, Rk w1 bx gx cap n vs (m + 20) ∧ Holds vs (F0 n)) ∧ UpdP (fun k => k = bx ∨ k = gx) w w1) := ⟨hR, hU⟩;clear hF hR hU
 go_wp2_with fail
 go_loopw [8] (fun s wr => s = .int .i64 0 ∧ Hid ((∃ vs, Rk wr bx gx cap n vs (m + 20) ∧ Holds vs (F0 n)) ∧ UpdP (fun k => k = bx ∨ k = gx) w wr)) (fun s _ => 0)
 case atStart => exact ⟨rfl, HE⟩
 case round =>
  obtain ⟨rfl, HR⟩ := hrel;clear HE;go_wp2;go_ret;exact ⟨rfl, HR.out⟩
def rkT : List TypeId := [83, 130, 133, 36, 151]
theorem RXA.keep {w w' : World} {B x f p s t : Nat} {L : List Fd.En} {F : Fd.FS} (h : RXA w B x f p s t L F) (hk : ∀ (k : Nat) (cs : Array Value) (ty : TypeId) (fr : Nat × Nat), w.heap[k]? = some (.cells cs ty fr) → rkT.contains ty = true → w'.heap[k]? = some (.cells cs ty fr)) (hs : w.heap.size ≤ w'.heap.size) : RXA w' B x f p s t L F := by
 obtain ⟨v, hv⟩ := h.fds;exact ⟨hk _ _ _ _ h.head (by decide), ⟨v, hv.keep (fun k cs ty fr hh hty => hk _ _ _ _ hh (by rcases hty with rfl | rfl | rfl <;> decide))⟩, h.rl, h.inv, h.tB, Nat.le_trans h.Bw hs⟩
theorem rk_st {t : TypeId} (h : rkT.contains t = true) : stB t = false := by
 have h3 : t ∈ rkT := List.contains_iff_mem.1 h;simp only [rkT, List.mem_cons, List.not_mem_nil, or_false] at h3
 rcases h3 with rfl | rfl | rfl | rfl | rfl <;> decide
theorem rk_un {t : TypeId} (h : rkT.contains t = true) : unB t = false := by
 have h3 : t ∈ rkT := List.contains_iff_mem.1 h;simp only [rkT, List.mem_cons, List.not_mem_nil, or_false] at h3
 rcases h3 with rfl | rfl | rfl | rfl | rfl <;> decide
structure YU (w w' : World) : Prop where
 cells : ∀ (k : Nat) (cs : Array Value) (t : TypeId) (fr : Nat × Nat), w.heap[k]? = some (.cells cs t fr) → t ≠ 175 → t ≠ 22 → w'.heap[k]? = some (.cells cs t fr)
 mp : ∀ (k : Nat) es cl, w.heap[k]? = some (.map es cl) → w'.heap[k]? = some (.map es cl)
 size : w.heap.size ≤ w'.heap.size
theorem YU.of {w w' : World} {bx gx cap n : Nat} {vs : List Int} {m : Nat} (h : Rk w bx gx cap n vs m) (hu : UpdP (fun k => k = bx ∨ k = gx) w w') : YU w w' := by
 obtain ⟨gt, pt, hr, q1, q2⟩ := h;obtain ⟨cur, hh, -⟩ := hr.tab;refine ⟨fun k cs t fr hk h1 h2 => (hu.block k (lt_of_heap hk) ?_).trans hk, fun k es cl hk => (hu.block k (lt_of_heap hk) ?_).trans hk, hu.size⟩
 ·rintro (rfl | rfl)
  ·rw [hr.head] at hk
   simp only [Option.some.injEq, Obj.cells.injEq] at hk;exact h1 hk.2.1.symm
  ·rw [hh] at hk
   simp only [Option.some.injEq, Obj.cells.injEq] at hk;exact h2 hk.2.1.symm
 ·rintro (rfl | rfl)
  ·rw [hr.head] at hk
   cases hk
  ·rw [hh] at hk
   cases hk
theorem UnAt.yu {w w' : World} {L : Pl} {U : Un} (h : UnAt w L U) (hu : YU w w') : UnAt w' L U := h.keep
 (fun k hk => by
   rcases hk with ⟨es, cl, e⟩ | ⟨cs, t, fr, e, ht⟩
   · exact (hu.mp _ _ _ e).trans e.symm
   · refine (hu.cells _ _ _ _ e ?_ ?_).trans e.symm
     · rintro rfl
       revert ht
       decide
     · rintro rfl
       revert ht
       decide)
 (fun g cs fr hg => (hu.cells _ _ _ _ hg (by decide) (by decide)).trans hg.symm)
 ((hu.cells _ _ _ _ h.head (by decide) (by decide)).trans h.head.symm)
theorem YU.isSt {w w' : World} {k : Nat} (hu : YU w w') (hk : IsSt w k) : w'.heap[k]? = w.heap[k]? := by
 obtain ⟨cs, t, fr, e, ht⟩ := hk;refine (hu.cells _ _ _ _ e ?_ ?_).trans e.symm
 ·rintro rfl
  revert ht
  decide
 ·rintro rfl
  revert ht
  decide
theorem UT.isSt {lo : Nat} {w w' : World} {k : Nat} (hu : UT lo w w') (hk : IsSt w k) : w'.heap[k]? = w.heap[k]? := by
 refine hu.block k hk.lt (Or.inr ?_);obtain ⟨cs, t, fr, e, ht⟩ := hk;rintro (⟨_, _, e2⟩ | ⟨_, t2, _, e2, ht2⟩)
 ·rw [e] at e2; cases e2
 ·rw [e] at e2
  simp only [Option.some.injEq, Obj.cells.injEq] at e2;obtain ⟨_, rfl, _⟩ := e2;exact st_un ht ht2
theorem Rk.kept {w w' : World} {bx gx cap n m : Nat} {vs : List Int} (h : Rk w bx gx cap n vs m) (hk : ∀ (g : Nat) (cs : Array Value) (t : TypeId) (fz : Nat × Nat), w.heap[g]? = some (.cells cs t fz) → (t = 175 ∨ t = 22 ∨ t = 45) → w'.heap[g]? = w.heap[g]?) : Rk w' bx gx cap n vs m := by
 obtain ⟨gt, pt, h, h1, h2⟩ := h;obtain ⟨cur, hh, ht⟩ := h.tab;refine ⟨gt, pt, ⟨(hk _ _ _ _ h.head (Or.inl rfl)).trans h.head, ⟨cur, (hk _ _ _ _ hh (Or.inr (Or.inl rfl))).trans hh, fun i hi => ?_⟩, h.len, h.low⟩, h1, h2⟩;obtain ⟨r, c, row, q1, q2, q3, q4⟩ := ht i hi;exact ⟨r, c, row, q1, (hk _ _ _ _ q2 (Or.inr (Or.inr rfl))).trans q2, q3, q4⟩
theorem Fs.kept {w w' : World} {B : Sto} {F : FS} {m : Nat} (h : Fs w B F m) (hs : ∀ k, IsSt w k → w'.heap[k]? = w.heap[k]?) : Fs w' B F m := by
 obtain ⟨vs, h⟩ := h;exact ⟨vs, h.disk.keep hs, h.hold, h.inv⟩
theorem udsk_new {w : World} {B G n : Nat} {vs : List Int} {lo : Nat} (h : Di.DiskAt w B G n vs 0 0) (h1 : lo ≤ B) (h2 : lo ≤ G) : Dk w (dsk lo B G) n vs 0 := ⟨dsk_ok _ _ _, _, rfl, h1, h2, 0, 0, h, Nat.le_refl _, Nat.le_refl _⟩
structure BegAt (w w' : World) (bb : Nat) (L : Pl) (B G x y n : Nat) : Prop where
 box : w'.heap[bb]? = some (.cells #[ptr L.c, ptr B, ptr x, ptr y] 43)
 un : UnAt w' L Un1
 fs : Fs w' (dsk w.heap.size B G) (F0 n) 5000
 lo : w.heap.size ≤ L.lo
 old : Below w.heap.size w w'
theorem lbegin_at (n : Nat) (w : World) (h1 : 13 ≤ n) (h2 : n ≤ 64) :
  Calls Tryz.prog 9 #[.int .i64 (n : Int), .slice none 0 0] w fun e w' => ∃ bb L B G x y, e = .returned (ptr bb) ∧ BegAt w w' bb L B G x y n := by
 have hC := unew_at w
 go_enter Tryz.func9, Tryz.ntmps9
 go_wp2_with fail
 refine hC.mono ?_;rintro e w1 ⟨L, rfl, hl, hu1, hb1⟩;have HU1 := hid hu1;have HL := hid hl;have HB1 := hid hb1;have hD := Di.new_at (n : Int) w1 (by omega) (by omega);simp only [Int.toNat_natCast] at hD;obtain ⟨B, hB⟩ : ∃ B, B = w1.heap.size + 1 := ⟨_, rfl⟩;obtain ⟨G, hG⟩ : ∃ G, G = w1.heap.size := ⟨_, rfl⟩;rw [← hB, ← hG] at hD;have HBq := hid hB;have HGq := hid hG;clear hC hu1 hl hb1 hB hG;obtain ⟨cc, hcc⟩ : ∃ c, c = L.c := ⟨_, rfl⟩;have Hcc := hid hcc;rw [← hcc];clear hcc
 go_wp2_with fail
 refine hD.mono ?_;rintro e w2 ⟨rfl, hd2, hb2, -⟩;have HD2 := hid hd2
 have HB2 : Hid (Below w1.heap.size w1 w2) := by rw [← HGq.out]; exact hb2
 have hX := xnew_at w2;clear hD hd2 hb2
 go_wp2_with fail
 refine hX.mono ?_;rintro e w3 ⟨x, f, p, s, t, rfl, hx3, ht3, hb3⟩;have HX3 : Hid (RXA w3 w2.heap.size x f p s t [] Fd.FS.zero ∧ Pc.RT w3 t (Pc.trS Pc.St0)) := ⟨hx3, ht3⟩;have HB3 := hid hb3;have hY := Di.rnew_ref (n : Int) w3 (by omega) (by omega);simp only [Int.toNat_natCast] at hY;clear hX hx3 ht3 hb3
 go_wp2_with fail
 refine hY.mono ?_;rintro e w4 ⟨rfl, ⟨gx, cap, hr4⟩, hb4⟩;obtain ⟨y, hy⟩ : ∃ y, y = w3.heap.size := ⟨_, rfl⟩;rw [← hy] at hr4 ⊢;have HYq := hid hy;have HR4 := hid hr4;have HB4 := hid hb4;clear hY hr4 hb4 hy;have e1 := core_eq cc;have e2 := disk_eq B;have e3 := rdisk_eq y;obtain ⟨bb, hbb⟩ : ∃ b, b = w4.heap.size := ⟨_, rfl⟩;have Hbb := hid hbb;obtain ⟨w5, hw5⟩ : ∃ V, V = w4.alloc (.cells #[ptr cc, ptr B, ptr x, ptr y] 43) := ⟨_, rfl⟩
 have hb5 : Below w4.heap.size w4 w5 := by rw [hw5]; exact below_alloc _ _
 have HW5 := hid hw5
 have hx5 : w5.heap[bb]? = some (.cells #[ptr cc, ptr B, ptr x, ptr y] 43) := by rw [hw5, hbb]; exact heap_alloc_new _ _
 have HX5 := hid hx5
 have hS : ∀ W : World, W.heap[bb]? = some (.cells #[ptr cc, ptr B, ptr x, ptr y] 43) → W.cell? ⟨bb, 0, none⟩ = some (ptr cc) ∧ W.cell? ⟨bb, 1, none⟩ = some (ptr B) ∧ W.cell? ⟨bb, 2, none⟩ = some (ptr x) ∧ W.cell? ⟨bb, 3, none⟩ = some (ptr y) := fun W hb => ⟨by rw [cell_of_heap hb]; rfl, by rw [cell_of_heap hb]; rfl, by rw [cell_of_heap hb]; rfl, by rw [cell_of_heap hb]; rfl⟩
 obtain ⟨c0, c1, c2, c3⟩ := hS w5 hx5;obtain ⟨v0, hv0⟩ : ∃ V, V = w5.drew := ⟨_, rfl⟩
 have hbv : Below w5.heap.size w5 v0 := by rw [hv0]; exact Di.drewN_below (w := w5) ⟨1, rfl⟩
 have HV0 := hid hv0;have HB25 : Hid (Below w2.heap.size w2 v0) := ((HB3.out.trans (HB4.out.mono HB3.out.size)).trans (hb5.mono (by have := HB3.out.size; have := HB4.out.size; omega))).trans (hbv.mono (by have := HB3.out.size; have := HB4.out.size; have := hb5.size; omega));have HB15 : Hid (Below w1.heap.size w1 v0) := HB2.out.trans (HB25.out.mono HB2.out.size);have HB45 : Hid (Below w4.heap.size w4 v0) := hb5.trans (hbv.mono hb5.size);have HB35 : Hid (Below w3.heap.size w3 v0) := HB4.out.trans (HB45.out.mono HB4.out.size);have HA0 : Hid (UnAt v0 L Un0) := HU1.out.below HB15.out;have HK0 : Hid (Dk v0 (dsk w.heap.size B G) n (List.replicate (n * 32) 0) 0) := udsk_new (HD2.out.below HB25.out) (by have := HBq.out; have := HB1.out.size; omega) (by have := HGq.out; have := HB1.out.size; omega);have HR0 : Hid (Rk v0 y gx cap n (List.replicate (n * 32) 0) 0) := ⟨0, 0, HR4.out.below HB45.out, by omega, by omega⟩;have HX0 : Hid (RXA v0 w2.heap.size x f p s t [] Fd.FS.zero ∧ Pc.RT v0 t (Pc.trS Pc.St0)) := ⟨HX3.out.1.keep (fun k cs ty fr hk _ => (HB35.out.block k (lt_of_heap hk)).trans hk) HB35.out.size, HX3.out.2.below HB35.out⟩;have HO0 : Hid (Below w.heap.size w v0) := HB1.out.trans (HB15.out.mono HB1.out.size)
 have HBx0 : Hid (v0.heap[bb]? = some (.cells #[ptr cc, ptr B, ptr x, ptr y] 43)) := (hbv.block _ (lt_of_heap hx5)).trans hx5;clear hw5 hb5 hx5 hbv hv0 hbb
 go_upto_region 2 with fail
 rw [← Hbb.out, ← HW5.out]
 go_upto_region 4 with fail
 have hM := Make0_at HK0.out (by omega) h1 h2;clear c0 c1 c2 c3 e1 e2 e3;refine wp_region_held_drew (S := fun w' => w'.cell? ⟨bb, 0, none⟩ = some (ptr cc) ∧ w'.cell? ⟨bb, 1, none⟩ = some (ptr B) ∧ w'.cell? ⟨bb, 2, none⟩ = some (ptr x) ∧ w'.cell? ⟨bb, 3, none⟩ = some (ptr y)) (by kernel_rfl) (by rw [← HV0.out]; exact hS _ HBx0.out) (fun hHeld => ?_);refine tkz [0, 1, 2, 3, 4, 5, 6, 8, 9, 10, 11, 12, 13] ?_
 iterate 13
  refine tkq (v := ?_) rfl (Or.inl ⟨by kernel_rfl, ?_⟩) ?_
  rotate_left
  ·(intro w hSw; (try dsimp only at hSw); go_simp) <;> with_reducible rfl
  (try simp only [Act.put, lq])
 refine tkw ?_;rw [← HV0.out]
 refine rdy 7 rfl fun K hK => ?_
 go_simp;refine hM.mono ?_;rintro e v1 ⟨rfl, hst, hfs⟩;have HK1 := hid hfs;have HBx1 : Hid (v1.heap[bb]? = some (.cells #[ptr cc, ptr B, ptr x, ptr y] 43)) := (hst.same HBx0.out (by decide)).trans HBx0.out;have HA1 : Hid (UnAt v1 L Un0) := HA0.out.st hst;have HR1 : Hid (Rk v1 y gx cap n (List.replicate (n * 32) 0) 0) := Rk.kept HR0.out (fun g cs t fz hg ht => hst.same hg (by rcases ht with rfl | rfl | rfl <;> decide));have HX1 : Hid (RXA v1 w2.heap.size x f p s t [] Fd.FS.zero ∧ Pc.RT v1 t (Pc.trS Pc.St0)) := ⟨HX0.out.1.keep (fun k cs ty fr hk ht => (hst.same hk (rk_st ht)).trans hk) hst.size, HX0.out.2.keep (hst.same HX0.out.2 (by decide))⟩;have HO1 : Hid (Below w.heap.size w v1) := HO0.out.trans (hst.below (Nat.le_refl _) HO0.out.size);have hR := rmake0_at HR1.out (by omega) h1 h2;clear hM hst hfs;refine hK.out _ _ (hS _ HBx1.out) (fun hHeld => ?_);clear hK K
 (try simp only [Act.put, lq])
 refine rdy 14 rfl fun K hK => ?_
 go_simp;refine hR.mono ?_;rintro e v2 ⟨rfl, -, hup⟩;have hyu := YU.of HR1.out hup;have HK2 : Hid (Fs v2 (dsk w.heap.size B G) (F0 n) 5000) := HK1.out.kept (fun k hk => hyu.isSt hk);have HBx2 : Hid (v2.heap[bb]? = some (.cells #[ptr cc, ptr B, ptr x, ptr y] 43)) := hyu.cells _ _ _ _ HBx1.out (by decide) (by decide);have HA2 : Hid (UnAt v2 L Un0) := HA1.out.yu hyu;have HX2 : Hid (RXA v2 w2.heap.size x f p s t [] Fd.FS.zero ∧ Pc.RT v2 t (Pc.trS Pc.St0)) := ⟨HX1.out.1.keep (fun k cs ty fr hk ht => hyu.cells _ _ _ _ hk (by rintro rfl; revert ht; decide) (by rintro rfl; revert ht; decide)) hyu.size, hyu.cells _ _ _ _ HX1.out.2 (by decide) (by decide)⟩;have HO2 : Hid (Below w.heap.size w v2) := HO1.out.trans (hup.below (fun k hk => by have := HYq.out; have := HB3.out.size; have := HB2.out.size; have := HB1.out.size; have := HR4.out.low; rcases hk with e | e <;> omega) HO1.out.size);have hC := ubegin_at HA2.out;rw [← Hcc.out] at hC;clear hR hup hyu;refine hK.out _ _ (hS _ HBx2.out) (fun hHeld => ?_);clear hK K
 (try simp only [Act.put, lq])
 refine tkz [15, 16, 17, 18, 19, 20, 22, 23, 24, 25] ?_
 iterate 10
  refine tkq (v := ?_) rfl (Or.inl ⟨by kernel_rfl, ?_⟩) ?_
  rotate_left
  ·(intro w hSw; (try dsimp only at hSw); go_simp) <;> with_reducible rfl
  (try simp only [Act.put, lq])
 refine tkw ?_
 refine rdy 21 rfl fun K hK => ?_
 go_simp;refine hC.mono ?_;rintro e v3 ⟨rfl, ha3, hu3⟩;have HK3 : Hid (Fs v3 (dsk w.heap.size B G) (F0 n) 5000) := HK2.out.kept (fun k hk => hu3.isSt hk);have HBx3 : Hid (v3.heap[bb]? = some (.cells #[ptr cc, ptr B, ptr x, ptr y] 43)) := hu3.other HBx2.out rfl;have HA3 := hid ha3;have HX3' : Hid (RXA v3 w2.heap.size x f p s t [] Fd.FS.zero ∧ Pc.RT v3 t (Pc.trS Pc.St0)) := ⟨HX2.out.1.keep (fun k cs ty fr hk ht => hu3.other hk (rk_un ht)) hu3.size, hu3.other HX2.out.2 rfl⟩;have HO3 : Hid (Below w.heap.size w v3) := HO2.out.trans (hu3.below (by rw [HL.out]; exact Nat.le_refl _) HO2.out.size);have hXb := xbegin_at HX3'.out.1 HX3'.out.2;clear hC ha3 hu3;refine hK.out _ _ (hS _ HBx3.out) (fun hHeld => ?_);clear hK K
 (try simp only [Act.put, lq])
 refine rdy 26 rfl fun K hK => ?_
 go_simp;refine hXb.mono ?_;rintro e v4 ⟨rfl, hg4⟩;have HK4 : Hid (Fs v4 (dsk w.heap.size B G) (F0 n) 5000) := HK3.out.kept (fun k hk => hg4.isSt hk);have HBx4 : Hid (v4.heap[bb]? = some (.cells #[ptr cc, ptr B, ptr x, ptr y] 43)) := hg4.other _ _ _ _ HBx3.out (by decide);have HA4 : Hid (UnAt v4 L Un1) := HA3.out.rg hg4;have HO4 : Hid (Below w.heap.size w v4) := HO3.out.trans (hg4.below (by have := HB2.out.size; have := HB1.out.size; omega));clear hXb hg4;refine hK.out _ _ (hS _ HBx4.out) (fun hHeld => ?_);clear hK K
 (try simp only [Act.put, lq])
 refine tkz [27, 28] ?_
 iterate 2
  refine tkq (v := ?_) rfl (Or.inl ⟨by kernel_rfl, ?_⟩) ?_
  rotate_left
  ·(intro w hSw; (try dsimp only at hSw); go_simp) <;> with_reducible rfl
  (try simp only [Act.put, lq])
 refine tkw ?_;refine wpAnyH_done (by kernel_rfl) ?_ _;clear hS;go_wp2;go_ret;exact ⟨bb, L, B, G, x, y, rfl, by rw [← Hcc.out]; exact HBx4.out, HA4.out, HK4.out, by rw [HL.out]; exact Nat.le_refl _, HO4.out⟩
end Go.Proofs.YtinaeifpoljfoaaGreatDoor
