/- Package inode: a file's resize. -/
import Derived.Test.YtcaofdbcgdgbbaaGreatDoorInoS
namespace Go.Proofs.YtcaofdbcgdgbbaaGreatDoor
open Go.RowKit
set_option linter.unusedVariables false

theorem isDat_yes {n b : Nat} (h1 : 12 ≤ b) (h2 : b < n) : isDat n b = true := by simp [isDat, h1, h2]
theorem isDat_zero (n : Nat) : isDat n 0 = false := by simp [isDat]
section
variable {w w' : World} {X : FX} {F : FS} {vs : List Int} {m i : Nat}
/-- An open file of a file system. -/
structure OpF (w : World) (X : FX) (F : FS) (vs : List Int) (m i : Nat) : Prop where
  fl : FlAt w X vs vs m F.iw F.bw (F.ino i).kind (F.ino i).links ((F.ino i).txt.length : Int) (six (fun j => (F.ino i).blk.getD j 0))
  n : X.n = F.n
  xi : X.i = i
  i32 : i < 32
  hold : Holds vs F
  inv : FInv F
theorem OpF.lacks (h : OpF w X F vs m i) (nd : Nat) (hn : nd ≤ 6) : ∀ k, k < nd → isDat X.n ((six (fun j => (F.ino i).blk.getD j 0)).getD k 0) = decide (k < (F.ino i).blk.length) := by
  intro k hk
  rw [six_get _ (by omega)]
  by_cases q : k < (F.ino i).blk.length
  · rw [decide_eq_true q, List.getD_eq_getElem?_getD, List.getElem?_eq_getElem q]
    have := h.inv.data i h.i32 _ (List.getElem_mem q)
    rw [h.n]
    exact isDat_yes this.1 this.2.1
  · rw [decide_eq_false q, List.getD_eq_getElem?_getD, List.getElem?_eq_none (by omega)]
    exact isDat_zero _
set_option maxHeartbeats 2000000 in
set_option maxRecDepth 100000 in
theorem fresize_no (h : OpF w X F vs m i) (s : Nat) (hs : s ≤ 192) (hr : roomB F i s = false) :
    Calls Tryz.prog 83 #[ptr X.bf, .int .i64 (s : Int)] w fun e w' => e = .returned (.int .i64 28) ∧ Below w.heap.size w w' := by
  obtain ⟨nd, hnd⟩ : ∃ k, k = need s := ⟨_, rfl⟩
  have hn6 : nd ≤ 6 := by rw [hnd]; exact need_le hs
  have hd : ((s : Int) + 32 - 1).tdiv 32 = (nd : Int) := by
    rw [Int.tdiv_eq_ediv_of_nonneg (by omega), hnd]
    unfold need
    omega
  have hwn : IntKind.i64.wrap ((nd : Nat) : Int) = (nd : Int) := Bi.wrap_small nd (by omega)
  obtain ⟨c0, c1, c2, c3, c4, c5, c6⟩ := h.fl.c
  have hb := Di.drewN_below (w := w) ⟨1, rfl⟩
  have hL := flacks_at (w := w.drew) (h.fl.below hb) nd (F.ino i).blk.length hn6 (h.lacks nd hn6)
  have HB : Hid (Below w.heap.size w w.drew) := hb
  have HBm : Hid (Bi.BmAt w X.hb X.gb X.n F.bw) := h.fl.bm.bb
  have Hr : Hid (Bi.cntF (Bi.bt F.bw) X.n < nd - (F.ino i).blk.length) := by
    unfold roomB at hr
    have := of_decide_eq_false hr
    rw [h.n, hnd]
    show _ < _
    omega
  clear h c0 c1 c3 c4 c5 c6 hb hnd hr
  go_enter Tryz.func83, Tryz.ntmps83
  go_wp2_with fail
  refine wp_region_held_drew (S := fun w' => w'.cell? ⟨X.bf, 2, none⟩ = some (ptr X.hb)) (by kernel_rfl) c2 (fun hHeld => ?_)
  refine wpAnyH_take (i := 0) (v := ?_) rfl (by kernel_rfl) (by kernel_rfl) (by kernel_rfl) (fun _ _ _ h => h) (Or.inl ⟨by kernel_rfl, ?_⟩) (by assumption) ?_
  rotate_left
  · (intro w hSw; (try dsimp only at hSw); go_simp) <;> with_reducible rfl
  (try simp only [Act.put, List.getElem_toArray, List.getElem_cons_zero, List.setIfInBounds_toArray, List.set_cons_zero, List.set_cons_succ])
  refine wpAnyH_take (i := 1) (v := ?_) rfl (by kernel_rfl) (by kernel_rfl) (by kernel_rfl) (fun _ _ _ h => h) (Or.inl ⟨by kernel_rfl, ?_⟩) (by assumption) ?_
  rotate_left
  · (intro w hSw; (try dsimp only at hSw); go_simp) <;> with_reducible rfl
  (try simp only [Act.put, List.getElem_toArray, List.getElem_cons_zero, List.getElem_cons_succ, List.setIfInBounds_toArray, List.set_cons_zero, List.set_cons_succ])
  refine wpAnyH_take (i := 3) (v := ?_) rfl (by kernel_rfl) (by kernel_rfl) (by kernel_rfl) (fun _ _ _ h => h) (Or.inl ⟨by kernel_rfl, ?_⟩) (by assumption) ?_
  rotate_left
  · (intro w hSw; (try dsimp only at hSw); go_simp) <;> with_reducible rfl
  (try simp only [Act.put, List.getElem_toArray, List.getElem_cons_zero, List.getElem_cons_succ, List.setIfInBounds_toArray, List.set_cons_zero, List.set_cons_succ])
  refine wpAnyH_take (i := 4) (v := ?_) rfl (by kernel_rfl) (by kernel_rfl) (by kernel_rfl) (fun _ _ _ h => h) (Or.inl ⟨by kernel_rfl, ?_⟩) (by assumption) ?_
  rotate_left
  · (intro w hSw; (try dsimp only at hSw); go_simp) <;> with_reducible rfl
  (try simp only [Act.put, List.getElem_toArray, List.getElem_cons_zero, List.getElem_cons_succ, List.setIfInBounds_toArray, List.set_cons_zero, List.set_cons_succ])
  refine wpAnyH_take (i := 5) (v := ?_) rfl (by kernel_rfl) (by kernel_rfl) (by kernel_rfl) (fun _ _ _ h => h) (Or.inl ⟨by kernel_rfl, ?_⟩) (by assumption) ?_
  rotate_left
  · (intro w hSw; (try dsimp only at hSw); go_simp) <;> with_reducible rfl
  (try simp only [Act.put, List.getElem_toArray, List.getElem_cons_zero, List.getElem_cons_succ, List.setIfInBounds_toArray, List.set_cons_zero, List.set_cons_succ])
  refine wpAnyH_take (i := 6) (v := ?_) rfl (by kernel_rfl) (by kernel_rfl) (by kernel_rfl) (fun _ _ _ h => h) (Or.inl ⟨by kernel_rfl, ?_⟩) (by assumption) ?_
  rotate_left
  · (intro w hSw; (try dsimp only at hSw); go_simp) <;> with_reducible rfl
  (try simp only [Act.put, List.getElem_toArray, List.getElem_cons_zero, List.getElem_cons_succ, List.setIfInBounds_toArray, List.set_cons_zero, List.set_cons_succ])
  refine wpAnyH_take (i := 7) (v := ?_) rfl (by kernel_rfl) (by kernel_rfl) (by kernel_rfl) (fun _ _ _ h => h) (Or.inl ⟨by kernel_rfl, ?_⟩) (by assumption) ?_
  rotate_left
  · (intro w hSw; (try dsimp only at hSw); go_simp) <;> with_reducible rfl
  (try simp only [Act.put, List.getElem_toArray, List.getElem_cons_zero, List.getElem_cons_succ, List.setIfInBounds_toArray, List.set_cons_zero, List.set_cons_succ])
  refine wpAnyH_ready (rs := [2]) (by kernel_rfl) (by simp) ?_
  refine AllReadyH.cons rfl (fun K hK => ?_) AllReadyH.nil
  go_simp
  refine hL.mono ?_
  rintro e w1 ⟨rfl, hb1⟩
  have HB1 : Hid (Below w.heap.size w w1) := HB.out.trans (hb1.mono HB.out.size)
  have c21 : w1.cell? ⟨X.bf, 2, none⟩ = some (ptr X.hb) := (HB1.out.cell (cell_lt c2)).trans c2
  have hLf := Bi.left_at X.hb X.gb X.n F.bw w1 (HBm.out.below HB1.out)
  obtain ⟨p, hp⟩ : ∃ p, p = nd - (F.ino i).blk.length := ⟨_, rfl⟩
  obtain ⟨cn, hcn⟩ : ∃ c, c = Bi.cntF (Bi.bt F.bw) X.n := ⟨_, rfl⟩
  rw [← hp, ← hcn] at Hr
  rw [← hcn] at hLf
  rw [← hp]
  have hlt : (cn : Int) < (p : Int) := by have := Hr.out; omega
  clear hL hb1 hp hcn
  refine hK.out _ _ c21 (fun hHeld => ?_)
  clear hK K
  (try simp only [Act.put, List.getElem_toArray, List.getElem_cons_zero, List.getElem_cons_succ, List.setIfInBounds_toArray, List.set_cons_zero, List.set_cons_succ])
  refine wpAnyH_ready (rs := [8]) (by kernel_rfl) (by simp) ?_
  refine AllReadyH.cons rfl (fun K hK => ?_) AllReadyH.nil
  go_simp
  refine hLf.mono ?_
  rintro e w2 ⟨rfl, q2, hw2⟩
  have hb2 := Di.drewN_below ⟨q2, hw2⟩
  have HB2 : Hid (Below w.heap.size w w2) := HB1.out.trans (hb2.mono HB1.out.size)
  have c22 : w2.cell? ⟨X.bf, 2, none⟩ = some (ptr X.hb) := (hb2.cell (cell_lt c21)).trans c21
  clear hLf hw2 hb2
  refine hK.out _ _ c22 (fun hHeld => ?_)
  clear hK K
  (try simp only [Act.put, List.getElem_toArray, List.getElem_cons_zero, List.getElem_cons_succ, List.setIfInBounds_toArray, List.set_cons_zero, List.set_cons_succ])
  refine wpAnyH_take (i := 9) (v := ?_) rfl (by kernel_rfl) (by kernel_rfl) (by kernel_rfl) (fun _ _ _ h => h) (Or.inl ⟨by kernel_rfl, ?_⟩) (by assumption) ?_
  rotate_left
  · (intro w hSw; (try dsimp only at hSw); go_simp) <;> with_reducible rfl
  (try simp only [Act.put, List.getElem_toArray, List.getElem_cons_zero, List.getElem_cons_succ, List.setIfInBounds_toArray, List.set_cons_zero, List.set_cons_succ])
  refine wpAnyH_done (by kernel_rfl) ?_ _
  clear c2 c21 c22
  go_wp2
  go_ret
  exact ⟨rfl, HB2.out⟩

set_option maxHeartbeats 4000000 in
set_option maxRecDepth 100000 in
theorem fresize_yes (h : OpF w X F vs m i) (hm : m ≤ 900000000000) (hu : Bi.bt F.iw i = true) (s : Nat) (hs : s ≤ 192) (hr : roomB F i s = true) :
    Calls Tryz.prog 83 #[ptr X.bf, .int .i64 (s : Int)] w fun e w' => e = .returned (.int .i64 0) ∧ (∃ us, FlAt w' X vs us m F.iw (newBw F i s) (F.ino i).kind (F.ino i).links (s : Int) (six (fun j => (newBlk F i s).getD j 0)) ∧ RZ F i s vs us) ∧ Fr X w w' := by
  obtain ⟨nd, hnd⟩ : ∃ k, k = need s := ⟨_, rfl⟩
  have hn6 : nd ≤ 6 := by rw [hnd]; exact need_le hs
  have hd : ((s : Int) + 32 - 1).tdiv 32 = (nd : Int) := by
    rw [Int.tdiv_eq_ediv_of_nonneg (by omega), hnd]
    unfold need
    omega
  have hwn : IntKind.i64.wrap ((nd : Nat) : Int) = (nd : Int) := Bi.wrap_small nd (by omega)
  obtain ⟨c0, c1, c2, c3, c4, c5, c6⟩ := h.fl.c
  have hb := Di.drewN_below (w := w) ⟨1, rfl⟩
  have hL := flacks_at (w := w.drew) (h.fl.below hb) nd (F.ino i).blk.length hn6 (h.lacks nd hn6)
  have HB : Hid (Below w.heap.size w w.drew) := hb
  have HBm : Hid (Bi.BmAt w X.hb X.gb X.n F.bw) := h.fl.bm.bb
  have Hroom : Hid (nd - (F.ino i).blk.length ≤ Bi.cntF (Bi.bt F.bw) F.n) := by rw [hnd]; show _ ≤ _; exact of_decide_eq_true hr
  have Hr : Hid (nd - (F.ino i).blk.length ≤ Bi.cntF (Bi.bt F.bw) X.n) := by rw [h.n]; exact Hroom.out
  have HO : Hid (OpF w X F vs m i) := h
  have HRm : Hid (roomB F i s = true) := hr
  have HU : Hid (Bi.bt F.iw i = true) := hu
  have HNd : Hid (nd = need s) := hnd
  have HL6 : Hid ((F.ino i).blk.length ≤ 6) := h.inv.six h.i32
  have HXn : Hid (X.n = F.n) := h.n
  clear h c0 c1 c3 c4 c5 c6 hb hnd hr hu
  go_enter Tryz.func83, Tryz.ntmps83
  go_wp2_with fail
  refine wp_region_held_drew (S := fun w' => w'.cell? ⟨X.bf, 2, none⟩ = some (ptr X.hb)) (by kernel_rfl) c2 (fun hHeld => ?_)
  refine wpAnyH_take (i := 0) (v := ?_) rfl (by kernel_rfl) (by kernel_rfl) (by kernel_rfl) (fun _ _ _ h => h) (Or.inl ⟨by kernel_rfl, ?_⟩) (by assumption) ?_
  rotate_left
  · (intro w hSw; (try dsimp only at hSw); go_simp) <;> with_reducible rfl
  (try simp only [Act.put, List.getElem_toArray, List.getElem_cons_zero, List.setIfInBounds_toArray, List.set_cons_zero, List.set_cons_succ])
  refine wpAnyH_take (i := 1) (v := ?_) rfl (by kernel_rfl) (by kernel_rfl) (by kernel_rfl) (fun _ _ _ h => h) (Or.inl ⟨by kernel_rfl, ?_⟩) (by assumption) ?_
  rotate_left
  · (intro w hSw; (try dsimp only at hSw); go_simp) <;> with_reducible rfl
  (try simp only [Act.put, List.getElem_toArray, List.getElem_cons_zero, List.getElem_cons_succ, List.setIfInBounds_toArray, List.set_cons_zero, List.set_cons_succ])
  refine wpAnyH_take (i := 3) (v := ?_) rfl (by kernel_rfl) (by kernel_rfl) (by kernel_rfl) (fun _ _ _ h => h) (Or.inl ⟨by kernel_rfl, ?_⟩) (by assumption) ?_
  rotate_left
  · (intro w hSw; (try dsimp only at hSw); go_simp) <;> with_reducible rfl
  (try simp only [Act.put, List.getElem_toArray, List.getElem_cons_zero, List.getElem_cons_succ, List.setIfInBounds_toArray, List.set_cons_zero, List.set_cons_succ])
  refine wpAnyH_take (i := 4) (v := ?_) rfl (by kernel_rfl) (by kernel_rfl) (by kernel_rfl) (fun _ _ _ h => h) (Or.inl ⟨by kernel_rfl, ?_⟩) (by assumption) ?_
  rotate_left
  · (intro w hSw; (try dsimp only at hSw); go_simp) <;> with_reducible rfl
  (try simp only [Act.put, List.getElem_toArray, List.getElem_cons_zero, List.getElem_cons_succ, List.setIfInBounds_toArray, List.set_cons_zero, List.set_cons_succ])
  refine wpAnyH_take (i := 5) (v := ?_) rfl (by kernel_rfl) (by kernel_rfl) (by kernel_rfl) (fun _ _ _ h => h) (Or.inl ⟨by kernel_rfl, ?_⟩) (by assumption) ?_
  rotate_left
  · (intro w hSw; (try dsimp only at hSw); go_simp) <;> with_reducible rfl
  (try simp only [Act.put, List.getElem_toArray, List.getElem_cons_zero, List.getElem_cons_succ, List.setIfInBounds_toArray, List.set_cons_zero, List.set_cons_succ])
  refine wpAnyH_take (i := 6) (v := ?_) rfl (by kernel_rfl) (by kernel_rfl) (by kernel_rfl) (fun _ _ _ h => h) (Or.inl ⟨by kernel_rfl, ?_⟩) (by assumption) ?_
  rotate_left
  · (intro w hSw; (try dsimp only at hSw); go_simp) <;> with_reducible rfl
  (try simp only [Act.put, List.getElem_toArray, List.getElem_cons_zero, List.getElem_cons_succ, List.setIfInBounds_toArray, List.set_cons_zero, List.set_cons_succ])
  refine wpAnyH_take (i := 7) (v := ?_) rfl (by kernel_rfl) (by kernel_rfl) (by kernel_rfl) (fun _ _ _ h => h) (Or.inl ⟨by kernel_rfl, ?_⟩) (by assumption) ?_
  rotate_left
  · (intro w hSw; (try dsimp only at hSw); go_simp) <;> with_reducible rfl
  (try simp only [Act.put, List.getElem_toArray, List.getElem_cons_zero, List.getElem_cons_succ, List.setIfInBounds_toArray, List.set_cons_zero, List.set_cons_succ])
  refine wpAnyH_ready (rs := [2]) (by kernel_rfl) (by simp) ?_
  refine AllReadyH.cons rfl (fun K hK => ?_) AllReadyH.nil
  go_simp
  refine hL.mono ?_
  rintro e w1 ⟨rfl, hb1⟩
  have HB1 : Hid (Below w.heap.size w w1) := HB.out.trans (hb1.mono HB.out.size)
  have c21 : w1.cell? ⟨X.bf, 2, none⟩ = some (ptr X.hb) := (HB1.out.cell (cell_lt c2)).trans c2
  have hLf := Bi.left_at X.hb X.gb X.n F.bw w1 (HBm.out.below HB1.out)
  obtain ⟨p, hp⟩ : ∃ p, p = nd - (F.ino i).blk.length := ⟨_, rfl⟩
  obtain ⟨cn, hcn⟩ : ∃ c, c = Bi.cntF (Bi.bt F.bw) X.n := ⟨_, rfl⟩
  rw [← hp, ← hcn] at Hr
  rw [← hcn] at hLf
  rw [← hp]
  have hlt : ¬ (cn : Int) < (p : Int) := by have := Hr.out; omega
  clear hL hb1 hp hcn
  refine hK.out _ _ c21 (fun hHeld => ?_)
  clear hK K
  (try simp only [Act.put, List.getElem_toArray, List.getElem_cons_zero, List.getElem_cons_succ, List.setIfInBounds_toArray, List.set_cons_zero, List.set_cons_succ])
  refine wpAnyH_ready (rs := [8]) (by kernel_rfl) (by simp) ?_
  refine AllReadyH.cons rfl (fun K hK => ?_) AllReadyH.nil
  go_simp
  refine hLf.mono ?_
  rintro e w2 ⟨rfl, q2, hw2⟩
  have hb2 := Di.drewN_below ⟨q2, hw2⟩
  have HB2 : Hid (Below w.heap.size w w2) := HB1.out.trans (hb2.mono HB1.out.size)
  have c22 : w2.cell? ⟨X.bf, 2, none⟩ = some (ptr X.hb) := (hb2.cell (cell_lt c21)).trans c21
  clear hLf hw2 hb2
  refine hK.out _ _ c22 (fun hHeld => ?_)
  clear hK K
  (try simp only [Act.put, List.getElem_toArray, List.getElem_cons_zero, List.getElem_cons_succ, List.setIfInBounds_toArray, List.set_cons_zero, List.set_cons_succ])
  refine wpAnyH_take (i := 9) (v := ?_) rfl (by kernel_rfl) (by kernel_rfl) (by kernel_rfl) (fun _ _ _ h => h) (Or.inl ⟨by kernel_rfl, ?_⟩) (by assumption) ?_
  rotate_left
  · (intro w hSw; (try dsimp only at hSw); go_simp) <;> with_reducible rfl
  (try simp only [Act.put, List.getElem_toArray, List.getElem_cons_zero, List.getElem_cons_succ, List.setIfInBounds_toArray, List.set_cons_zero, List.set_cons_succ])
  refine wpAnyH_done (by kernel_rfl) ?_ _
  clear c2 c21 c22 Hr
  go_wp2
  have HF0 : Hid (FlAt w2 X vs vs m F.iw F.bw (F.ino i).kind (F.ino i).links ((F.ino i).txt.length : Int) (six (fun j => (F.ino i).blk.getD j 0))) := HO.out.fl.below HB2.out
  go_loopw [21] (fun z wr => ∃ (k : Nat) (us : List Int) (bl bw' Z : List Nat), k ≤ 6 ∧ z = .int .i64 k ∧ FlAt wr X vs us m F.iw bw' (F.ino i).kind (F.ino i).links ((F.ino i).txt.length : Int) bl ∧ Fr X w wr ∧ Hid (RS F.n (F.ino i).blk F.bw nd k bl bw' Z ∧ ZW F.n vs Z us)) (fun z _ => 6 - (intOf z).toNat)
  case atStart => exact ⟨0, vs, _, _, [], by omega, rfl, HF0.out, UpdP.of_below HB2.out, RS.start _ _ _ _, ZW.refl _ _⟩
  case round =>
    clear HF0 HB2 HB1 HB HBm
    obtain ⟨k, us, bl, bw', Z, hk, rfl, hF, hfr, HR⟩ := hrel
    have HF : Hid (FlAt wr X vs us m F.iw bw' (F.ino i).kind (F.ino i).links ((F.ino i).txt.length : Int) bl) := hF
    have HFr : Hid (Fr X w wr) := hfr
    have Hg := (grow_ok HO.out.inv.bw (k := nd - (F.ino i).blk.length) Hroom.out)
    have hvl : vs.length = F.n * 32 := HO.out.hold.len
    by_cases hlt6 : k < 6
    · have hki : decide ((k : Int) < 6) = true := by simp; omega
      have hk6 : (k : Int) < 6 := by omega
      by_cases hge : nd ≤ k
      · have hgi : (nd : Int) ≤ (k : Int) := by omega
        by_cases hkl : k < (F.ino i).blk.length
        · obtain ⟨r1, r2⟩ := HR.out.1.drop hge hkl HL6.out
          have hdat := HO.out.inv.data i HO.out.i32 _ (List.getElem_mem hkl)
          have hgk : (F.ino i).blk.getD k 0 = (F.ino i).blk[k] := by rw [List.getD_eq_getElem?_getD, List.getElem?_eq_getElem hkl]; rfl
          rw [← hgk] at hdat
          have hD := fdrop_yes hF hm k _ hlt6 r1 (isDat_yes hdat.1 (by rw [HXn.out]; exact hdat.2.1))
          have HZ2 : Hid (ZW F.n vs (Z ++ [(F.ino i).blk.getD k 0]) (splice us ((F.ino i).blk.getD k 0 * 32) (List.replicate 32 0))) := HR.out.2.snoc hvl hdat.2.1
          have HR2 : Hid _ := r2
          clear hF hfr r1 r2 hdat hgk hkl Hg hvl
          go_wp2_with fail
          refine hD.mono ?_
          rintro e w3 ⟨rfl, h3, f3⟩
          have H3 : Hid _ := h3
          have HF3 : Hid (Fr X w w3) := HFr.out.trans f3
          clear hD h3 f3
          go_wp2
          go_roundw
          case rel => exact ⟨k + 1, _, _, _, _, by omega, by go_num, H3.out, HF3.out, HR2.out, HZ2.out⟩
          case measure => simp [intOf]; omega
        · obtain ⟨r1, r2⟩ := HR.out.1.none hge (by omega) hlt6 Hg.1
          have hD := fdrop_no hF k hlt6 (by rw [r1]; exact isDat_zero _)
          have HR2 : Hid _ := r2
          clear hF hfr r1 r2 hkl Hg hvl
          go_wp2_with fail
          refine hD.mono ?_
          rintro e w3 ⟨rfl, h3, f3⟩
          have H3 : Hid _ := h3
          have HF3 : Hid (Fr X w w3) := HFr.out.trans f3
          clear hD h3 f3
          go_wp2
          go_roundw
          case rel => exact ⟨k + 1, _, _, _, _, by omega, by go_num, H3.out, HF3.out, HR2.out, HR.out.2⟩
          case measure => simp [intOf]; omega
      · have hgi : ¬ (nd : Int) ≤ (k : Int) := by omega
        have hH := fhas_at hF k hlt6
        by_cases hkl : k < (F.ino i).blk.length
        · obtain ⟨r1, r2⟩ := (HR.out.1.keep (by omega) hkl).resolve_right (by omega)
          have hdat := HO.out.inv.data i HO.out.i32 _ (List.getElem_mem hkl)
          have hgk : (F.ino i).blk.getD k 0 = (F.ino i).blk[k] := by rw [List.getD_eq_getElem?_getD, List.getElem?_eq_getElem hkl]; rfl
          rw [← hgk] at hdat
          rw [r2, isDat_yes hdat.1 (by rw [HXn.out]; exact hdat.2.1)] at hH
          have HR2 : Hid _ := r1
          clear hF hfr r1 r2 hdat hgk hkl Hg hvl
          go_wp2_with fail
          refine hH.mono ?_
          rintro e w3 ⟨rfl, hb3⟩
          have H3 : Hid _ := HF.out.below hb3
          have HF3 : Hid (Fr X w w3) := HFr.out.trans (UpdP.of_below hb3)
          clear hH hb3
          go_wp2
          go_roundw
          case rel => exact ⟨k + 1, _, _, _, _, by omega, by go_num, H3.out, HF3.out, HR2.out, HR.out.2⟩
          case measure => simp [intOf]; omega
        · have Hgk := (grow_ok HO.out.inv.bw (k := k - (F.ino i).blk.length) (by have := Hroom.out; omega))
          obtain ⟨r1, r2, r3⟩ := HR.out.1.take (by omega) (by omega) hn6 Hgk.1
          rw [r1, isDat_zero] at hH
          have hcnt : 0 < Bi.cntF (Bi.bt bw') X.n := by
            rw [r2, HXn.out]
            have := Hgk.2.2.2.2.2
            have := Hroom.out
            omega
          have hlow : lowN (Bi.bt bw') X.n < F.n := by rw [← HXn.out]; exact lowN_lt hcnt
          rw [← HXn.out] at r3
          have HZ2 : Hid (ZW F.n vs (Z ++ [lowN (Bi.bt bw') X.n]) (splice us (lowN (Bi.bt bw') X.n * 32) (List.replicate 32 0))) := HR.out.2.snoc hvl hlow
          have HR2 : Hid _ := r3
          have HCn : Hid (0 < Bi.cntF (Bi.bt bw') X.n) := hcnt
          rw [HXn.out] at HR2
          clear hF hfr r1 r2 r3 hkl Hg hvl Hgk hcnt hlow
          go_wp2_with fail
          refine hH.mono ?_
          rintro e w3 ⟨rfl, hb3⟩
          have h3 := HF.out.below hb3
          have hT := ftake_at h3 hm k hlt6 HCn.out
          have HF3 : Hid (Fr X w w3) := HFr.out.trans (UpdP.of_below hb3)
          clear hH hb3 h3
          go_wp2_with fail
          refine hT.mono ?_
          rintro e w4 ⟨rfl, h4, f4⟩
          have H4 : Hid _ := h4
          have HF4 : Hid (Fr X w w4) := HF3.out.trans f4
          clear hT h4 f4
          go_wp2
          go_roundw
          case rel =>
            refine ⟨k + 1, _, _, _, _, by omega, by go_num, H4.out, HF4.out, ?_, HZ2.out⟩
            have := HR2.out
            rw [← HXn.out] at this
            rwa [← HXn.out]
          case measure => simp [intOf]; omega
    · have hki : decide ((k : Int) < 6) = false := by simp; omega
      have hk6 : ¬ (k : Int) < 6 := by omega
      have hk0 : k = 6 := by omega
      have hRS := HR.out.1
      rw [hk0] at hRS
      obtain ⟨r1, r2, r3⟩ := hRS.done hn6 HL6.out
      have hnb : newBlk F i s = (F.ino i).blk.take nd ++ (grow F.n F.bw (nd - (F.ino i).blk.length)).1 := by rw [HNd.out]; rfl
      have hnw : newBw F i s = back (grow F.n F.bw (nd - (F.ino i).blk.length)).2 ((F.ino i).blk.drop nd) := by rw [HNd.out]; rfl
      rw [← hnb] at r1
      rw [← hnw] at r2
      subst r1
      subst r2
      have hG := HO.out.inv.resize HO.out.i32 HU.out hs HRm.out
      have hok := hG.ok HO.out.i32
      have e0 : (resizeF F i s).ino i = ⟨(F.ino i).kind, (F.ino i).links, sized (F.ino i).txt s, newBlk F i s⟩ := FS.put_same _ _ _ _
      rw [e0] at hok
      have hnl := newBlk_len HO.out.inv HO.out.i32 HRm.out
      rw [← HNd.out] at hnl
      obtain ⟨f, hfq⟩ : ∃ f, f = min s (F.ino i).txt.length := ⟨_, rfl⟩
      have hgt : ∀ j, j < nd → ∃ b, (newBlk F i s)[j]? = some b ∧ (six (fun j => (newBlk F i s).getD j 0)).getD j 0 = b := fun j hj => by
        have hj2 : j < (newBlk F i s).length := by omega
        refine ⟨(newBlk F i s)[j], List.getElem?_eq_getElem hj2, ?_⟩
        rw [six_get _ (by omega), List.getD_eq_getElem?_getD, List.getElem?_eq_getElem hj2]
        rfl
      have hC := fclear_at hF hm f nd (by omega) hn6 (fun j hj => by
        obtain ⟨b, h1, h2⟩ := hgt j hj
        rw [h2, HXn.out]
        exact (hok.data b (List.mem_of_getElem? h1)).2.1) (fun j j' hj hj' e => by
        obtain ⟨b, h1, h2⟩ := hgt j hj
        obtain ⟨b', h1', h2'⟩ := hgt j' hj'
        rw [h2, h2'] at e
        subst e
        exact (List.getElem?_inj (List.getElem?_eq_some_iff.1 h1).1 hok.nd).1 (h1.trans h1'.symm))
      obtain ⟨c0, c1, c2, c3, c4, c5, c6⟩ := hF.c
      obtain ⟨sz, hszq⟩ : ∃ z, z = (F.ino i).txt.length := ⟨_, rfl⟩
      have hmn : min (s : Int) (sz : Int) = (f : Int) := by omega
      rw [← hszq] at c6
      have HZs : Hid (∀ b, b ∈ Z ↔ (b ∈ (grow F.n F.bw (need s - (F.ino i).blk.length)).1 ∨ b ∈ (F.ino i).blk.drop (need s))) := by rw [← HNd.out]; exact r3
      have HFq : Hid (f = min s (F.ino i).txt.length) := hfq
      clear hfr hk0 hRS r3 hnb hnw hG hok e0 hnl hgt hF c0 c1 c2 c3 c4 c5 hfq hszq Hg hvl
      go_wp2_with fail
      refine hC.mono ?_
      rintro e w3 ⟨rfl, ⟨u3, h3, hcl⟩, f3⟩
      obtain ⟨d0, d1, d2, d3, d4, d5, d6⟩ := h3.c
      have fz := h3.free 6
      obtain ⟨h4, f4⟩ := h3.sets (s := (s : Int))
      have H4 : Hid _ := h4
      have HF4 : Hid (Fr X w (w3.setCell ⟨X.bf, 6, none⟩ (.int .i64 (s : Int)))) := (HFr.out.trans f3).trans f4
      have HRZ : Hid (RZ F i s vs u3) := by
        rw [HXn.out, HFq.out, HNd.out] at hcl
        exact rz_of HO.out.inv HO.out.hold HO.out.i32 HU.out hs HRm.out HZs.out HR.out.2 hcl
      clear hC h3 hcl f3 h4 f4 d0 d1 d2 d3 d4 d5 c6
      generalize (F.ino i).txt.length = sz' at *
      go_wp2
      go_ret
      exact ⟨rfl, ⟨u3, H4.out, HRZ.out⟩, HF4.out⟩
end
end Go.Proofs.YtcaofdbcgdgbbaaGreatDoor
