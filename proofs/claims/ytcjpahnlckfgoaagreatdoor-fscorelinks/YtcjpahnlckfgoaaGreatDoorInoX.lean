/- Package inode: a file's read. -/
import Derived.Test.YtcjpahnlckfgoaaGreatDoorInoUV
import Derived.WalkMore
import Derived.ScopeJumps
import Derived.Lib.AppendStr
namespace Go.Proofs.YtcjpahnlckfgoaaGreatDoor
open Go.RowKit Go.Lib
set_option linter.unusedVariables false

/-- The slice v holds the bytes out, in a block of its own from B on. -/
def Text (w : World) (B : Nat) (v : Value) (out : List UInt8) : Prop := w.ownsRow B 5 1 v out.length (strCells ⟨out.toArray⟩)
theorem Text.nil (w : World) (B : Nat) : Text w B (.slice none 0 0) [] := World.ownsRow_nil w B _ 1
theorem Text.string {w : World} {B : Nat} {v : Value} {out : List UInt8} (h : Text w B v out) : (convert 192 9 v).run Tryz.prog w = .ok (tx out) w := by
  rcases h.2 with ⟨rfl, e⟩ | ⟨g, cap, cur, rfl, hb, hh, h1, h2, h3, h4⟩
  · have : out = [] := List.length_eq_zero_iff.1 e
    subst this
    rw [run_convert_bytes_string w _ _ 5 none 0 0 Tryz.underlying192 Tryz.underlying5 Tryz.underlying9]
    rfl
  · refine run_convert_bytes_back w _ _ 5 ⟨g, 0, none⟩ cap out Tryz.underlying192 Tryz.underlying5 Tryz.underlying9 (fun j hj => ?_)
    refine h.cells (g := g) rfl j _ ?_
    simp [strCells, hj]
theorem byteInfo : (Tryz.prog.info? 5).map (fun i => (i.zero, i.size, i.bytes)) = some (some (.int .u8 0), 1, 1) := by kernel_rfl
theorem strCells_snoc (out : List UInt8) {x : Int} (h : 0 ≤ x ∧ x < 256) : strCells ⟨out.toArray⟩ ++ [.int .u8 x] = strCells ⟨(out ++ [UInt8.ofNat x.toNat]).toArray⟩ := by
  simp [strCells]
  omega
theorem byte_wrap {x : Int} (h : 0 ≤ x ∧ x < 256) : IntKind.u8.wrap x = x := by
  have h1 := h.1
  have h2 := h.2
  simp [IntKind.wrap, IntKind.bits, IntKind.signed]
  omega
theorem Text.st {w w' : World} {B lo : Nat} {v : Value} {out : List UInt8} (h : Text w B v out) (hu : ST lo w w') : Text w' B v out := ownsRow_at h (fun g hg => by obtain ⟨h1, cs, h2⟩ := own_type h hg; exact hu.same h2 (by decide))
theorem Text.keep {w w' : World} {B : Nat} {v : Value} {out : List UInt8} (h : Text w B v out) (hk : ∀ g, B ≤ g → g < w.heap.size → w'.heap[g]? = w.heap[g]?) : Text w' B v out :=
  ownsRow_at h (fun g hg => by obtain ⟨h1, cs, h2⟩ := own_type h hg; exact hk g h1 (lt_of_heap h2))
/-- The bytes from o on, so many. -/
def cutB (t : List Int) (o j : Nat) : List UInt8 := byts ((t.drop o).take j)
theorem cutB_len {t : List Int} {o j : Nat} (h : o + j ≤ t.length) : (cutB t o j).length = j := by
  unfold cutB
  rw [byts_len, List.length_take, List.length_drop]
  omega
theorem cutB_snoc {t : List Int} {o j : Nat} (h : o + j < t.length) : cutB t o j ++ [UInt8.ofNat (t.getD (o + j) 0).toNat] = cutB t o (j + 1) := by
  unfold cutB byts
  rw [List.take_add_one, List.getElem?_drop, List.map_append, List.getElem?_eq_getElem h, List.getD_eq_getElem?_getD, List.getElem?_eq_getElem h]
  rfl
section
variable {w w' : World} {X : FX} {vs ws : List Int} {m : Nat} {iw bw : List Nat} {kd lk sz : Int} {bl : List Nat}
theorem Dr.mono {base bd n m' : Nat} {B : Sto} (h : Dr w base bd B n vs ws m) (hm : m ≤ m') : Dr w base bd B n vs ws m' := by
  obtain ⟨sv, S, h⟩ := h
  exact ⟨sv, S, ⟨h.head, h.own, h.bB, h.sh, h.nd, h.out, h.len, h.disk.mono (by omega), h.nn⟩⟩
theorem Dr.disk {base bd n : Nat} {B : Sto} (h : Dr w base bd B n vs ws m) : Dk w B n vs (m + 1040) := by
  obtain ⟨sv, S, h⟩ := h
  have := h.few
  have := h.nn
  exact h.disk.mono (by omega)
theorem FlAt.mono {m' : Nat} (h : FlAt w X vs ws m iw bw kd lk sz bl) (hm : m ≤ m') : FlAt w X vs ws m' iw bw kd lk sz bl := ⟨h.head, h.dr.mono hm, h.bm, h.bl6, h.lo⟩
/-- .. behind an append to a slice of bytes. -/
theorem FlAt.grown {v : Value} {k B : Nat} {xs : List Value} (h : FlAt w X vs ws m iw bw kd lk sz bl) (ho : w.ownsRow B 5 1 v k xs) (hB : X.base ≤ B) (hg : w.grownBy w' v.ownBlock) : FlAt w' X vs ws m iw bw kd lk sz bl ∧ Fr X w w' := by
  cases e : v.ownBlock with
  | none =>
    have hb : Below w.heap.size w w' := ⟨hg.os, hg.tape, hg.output, hg.size, fun k hk => hg.block k hk (by rw [e]; simp)⟩
    exact ⟨h.below hb, SU.of_below hb⟩
  | some g =>
    obtain ⟨hb, cs, hh⟩ := own_type ho e
    have hu : Upd g w w' := ⟨hg.os, hg.tape, hg.output, hg.size, fun k hk hne => hg.block k hk (by rw [e]; simpa using hne)⟩
    exact ⟨h.other hu hh (by omega) (by decide), hu.fr (by omega)⟩
set_option maxHeartbeats 1000000 in
theorem fread_no (X : FX) (o n : Int) (hn : n ≤ 0) (w : World) :
    Calls Tryz.prog 68 #[ptr X.bf, .int .i64 o, .int .i64 n] w fun e w' => e = .returned (.tuple #[tx [], .int .i64 0]) ∧ w' = w := by
  go_enter Tryz.func68, Tryz.ntmps68
  go_wp2
  refine wp_scope_jumps 0 (fun a' w' => ∃ u0 u1 u2 u3 u4 u5 u6 u7 u9 u10 u11 u12 u13 u14 u15 u16 u17 u18 u19 u20 u21 u22 u23 u24 u25 u26 u27 u28 u29 u30 u31 u32 u33 u34 u35 u36 u37 u38 u39 u40 u41 u42 u43 u44 u45 u46 u47 u48 u49 u50 u51 : Value, ∃ v : Value, a' = { tmps := #[u0, u1, u2, u3, u4, u5, u6, u7, v, u9, u10, u11, u12, u13, u14, u15, u16, u17, u18, u19, u20, u21, u22, u23, u24, u25, u26, u27, u28, u29, u30, u31, u32, u33, u34, u35, u36, u37, u38, u39, u40, u41, u42, u43, u44, u45, u46, u47, u48, u49, u50, u51], defers := [] } ∧ v = .slice none 0 0 ∧ w' = w) (fun _ _ => 0) rfl ?_ ?_
  · go_wp2
    go_step3
    refine ⟨rfl, ?_⟩
    repeat (first | exact ⟨_, rfl, rfl, rfl⟩ | apply Exists.intro)
  · rintro a' w' ⟨u0, u1, u2, u3, u4, u5, u6, u7, u9, u10, u11, u12, u13, u14, u15, u16, u17, u18, u19, u20, u21, u22, u23, u24, u25, u26, u27, u28, u29, u30, u31, u32, u33, u34, u35, u36, u37, u38, u39, u40, u41, u42, u43, u44, u45, u46, u47, u48, u49, u50, u51, v, rfl, rfl, rfl⟩
    have hcv := (Text.nil w' 0).string
    go_wp2
    simp only [Exit.jump]
    go_ret2
    exact ⟨rfl, rfl⟩
set_option maxHeartbeats 4000000 in
set_option maxRecDepth 100000 in
theorem fread_at {F : FS} {i : Nat} (h : OpF w X F vs m i) (hbs : X.base ≤ w.heap.size) (hm : m ≤ 890000000000) (o n : Nat) (hn : 0 < n) (ho : o + n ≤ (F.ino i).txt.length) :
    Calls Tryz.prog 68 #[ptr X.bf, .int .i64 (o : Int), .int .i64 (n : Int)] w fun e w' => e = .returned (.tuple #[tx (cutB (F.ino i).txt o n), .int .i64 0]) ∧ (Dk w' X.B X.n vs (m + 2048)) ∧ Fr X w w' := by
  obtain ⟨t, ht⟩ : ∃ t, t = (F.ino i).txt := ⟨_, rfl⟩
  have HT : Hid (t = (F.ino i).txt) := ht
  have HO : Hid (OpF w X F vs m i) := h
  have ht192 : t.length ≤ 192 := by rw [ht]; exact h.inv.max i h.i32
  rw [← ht] at ho ⊢
  have HBy : Hid (∀ p, p < t.length → 0 ≤ t.getD p 0 ∧ t.getD p 0 < 256) := fun p hp => by
    refine h.inv.byte i h.i32 _ ?_
    rw [← ht, List.getD_eq_getElem?_getD, List.getElem?_eq_getElem hp]
    exact List.getElem_mem hp
  have HBlk : Hid (∀ k, 32 * k < t.length → ∃ b, (six (fun j => (F.ino i).blk.getD j 0)).getD k 0 = b ∧ isDat X.n b = true ∧ frameOf vs b = chunk t k) := fun k hk => by
    have hkl : k < (F.ino i).blk.length := by rw [h.inv.len i h.i32, ← ht]; unfold need; omega
    have hdat := h.inv.data i h.i32 _ (List.getElem_mem hkl)
    refine ⟨(F.ino i).blk[k], ?_, by rw [h.n]; exact isDat_yes hdat.1 hdat.2.1, ?_⟩
    · rw [six_get _ (by omega), List.getD_eq_getElem?_getD, List.getElem?_eq_getElem hkl]
      rfl
    · rw [ht]
      exact h.hold.data i h.i32 k _ (List.getElem?_eq_getElem hkl)
  obtain ⟨k0, hk0⟩ : ∃ k, k = o / 32 := ⟨_, rfl⟩
  have HK0 : Hid (k0 = o / 32) := hk0
  have hd0 : (o : Int).tdiv 32 = (k0 : Int) := by rw [Int.tdiv_eq_ediv_of_nonneg (by omega)]; omega
  have hw0 : IntKind.i64.wrap ((k0 : Nat) : Int) = (k0 : Int) := Bi.wrap_small k0 (by omega)
  have hni : ¬ (n : Int) ≤ 0 := by omega
  obtain ⟨i0, hi0, hzz⟩ := Option.map_eq_some_iff.1 byteInfo
  simp only [Prod.mk.injEq] at hzz
  obtain ⟨hz0, hz1, hz2⟩ := hzz
  obtain ⟨B, hB⟩ : ∃ B, B = w.heap.size := ⟨_, rfl⟩
  have HBq : Hid (B = w.heap.size) := hB
  clear h ht hk0 hB
  go_enter Tryz.func68, Tryz.ntmps68
  go_wp2
  refine wp_scope_jumps 0 (fun a' w' => ∃ u0 u1 u2 u3 u4 u5 u6 u7 u9 u10 u11 u12 u13 u14 u15 u16 u17 u18 u19 u20 u21 u22 u23 u24 u25 u26 u27 u28 u29 u30 u31 u32 u33 u34 u35 u36 u37 u38 u39 u40 u41 u42 u43 u44 u45 u46 u47 u48 u49 u50 u51 : Value, ∃ v : Value, a' = { tmps := #[u0, u1, u2, u3, u4, u5, u6, u7, v, u9, u10, u11, u12, u13, u14, u15, u16, u17, u18, u19, u20, u21, u22, u23, u24, u25, u26, u27, u28, u29, u30, u31, u32, u33, u34, u35, u36, u37, u38, u39, u40, u41, u42, u43, u44, u45, u46, u47, u48, u49, u50, u51], defers := [] } ∧ Text w' B v (cutB t o n) ∧ (Dk w' X.B X.n vs (m + 2048)) ∧ Fr X w w') (fun _ _ => 0) rfl ?_ ?_
  · go_wp2
    go_loopw [8, 9] (fun v s wr => ∃ (j k : Nat), j < n ∧ s = .int .i64 k ∧ k = (o + j) / 32 ∧ (j = 0 ∨ (o + j) % 32 = 0) ∧ (∃ u, u = v ∧ Text wr B u (cutB t o j)) ∧ FlAt wr X vs vs (m + k) F.iw F.bw (F.ino i).kind (F.ino i).links ((F.ino i).txt.length : Int) (six (fun j => (F.ino i).blk.getD j 0)) ∧ Fr X w wr) (fun _ s _ => 6 - (intOf s).toNat)
    case atStart => exact ⟨0, k0, hn, rfl, by have := HK0.out; omega, Or.inl rfl, ⟨_, rfl, Text.nil _ _⟩, HO.out.fl.mono (by omega), SU.refl _ _ _⟩
    case round =>
      obtain ⟨j, k, hj, rfl, hkq, hor, ⟨v, rfl, htx⟩, hF, hfr⟩ := hrel
      have hk6 : k < 6 := by omega
      obtain ⟨b, hb1, hb2, hb3⟩ := HBlk.out k (by omega)
      have hwb : X.base ≤ wr.heap.size := Nat.le_trans hbs hfr.size
      have hBk := fblock_at hF (by omega) hwb k b hk6 hb1 hb2
      rw [hb3] at hBk
      obtain ⟨va, vc, rfl⟩ := own_slice htx
      rw [cutB_len (by omega)] at htx ⊢
      have HTx : Hid (Text wr B (.slice va j vc) (cutB t o j)) := htx
      have HFr : Hid (Fr X w wr) := hfr
      have hBs : B ≤ wr.heap.size := by have := HBq.out; have := hfr.size; omega
      obtain ⟨a, ha⟩ : ∃ a, a = o - 32 * k := ⟨_, rfl⟩
      obtain ⟨c, hc⟩ : ∃ c, c = 32 - a := ⟨_, rfl⟩
      have hakj : 32 * k + a = o + j := by omega
      have ha32 : a < 32 := by omega
      have hmx : max ((o : Int) - (k : Int) * 32) 0 = (a : Int) := by omega
      have hwk : IntKind.i64.wrap ((k : Int) * 32) = (k : Int) * 32 := by
        have := Bi.wrap_small (k * 32) (by omega)
        rw [Int.natCast_mul] at this
        exact this
      have HKq : Hid (k = (o + j) / 32) := hkq
      have Hc : Hid (c = 32 - a) := hc
      have hcp : 0 < c := by omega
      have hc32 : a + c = 32 := by omega
      obtain ⟨R, hR⟩ : ∃ R, R = urow (chunk t k) := ⟨_, rfl⟩
      have HRs : Hid (R.size = 32) := by rw [hR]; show _ = _; rw [urow_size, chunk_len]
      have HRo : Hid (R.all (·.oneCell') = true) := by rw [hR]; exact urow_one _
      have HRg : Hid (∀ i', i' < c → R[a + i']? = some (.int .u64 (t.getD (o + j + i') 0))) := fun i' hi' => by
        rw [hR, urow_get _ _ (by rw [chunk_len]; omega), chunk_get _ _ _ (by omega), show 32 * k + (a + i') = o + j + i' by omega]
      rw [← hR] at hBk
      have hz := lit_zc
      clear hF hfr hkq hor hb1 hb2 hb3 hwb htx ha hc hR
      go_wp2_with fail
      refine hBk.mono ?_
      rintro e w1 ⟨rfl, hF1, hu1⟩
      have hTx1 : Text w1 B (.slice va j vc) (cutB t o j) := HTx.out.st hu1
      obtain ⟨pc, hpc⟩ : ∃ p, p = w1.heap.size := ⟨_, rfl⟩
      have Hpc : Hid (pc = w1.heap.size) := hpc
      obtain ⟨W2, hW2⟩ : ∃ W, W = w1.alloc (.cells R 105) := ⟨_, rfl⟩
      have hb2 : Below w1.heap.size w1 W2 := by rw [hW2]; exact below_alloc _ _
      have HTx2 : Hid (Text W2 B (.slice va j vc) (cutB t o (j + 0))) := hTx1.keep (fun g h1 h2 => hb2.block g h2)
      have HF2 : Hid (FlAt W2 X vs vs (m + k + 1) F.iw F.bw (F.ino i).kind (F.ino i).links ((F.ino i).txt.length : Int) (six (fun j => (F.ino i).blk.getD j 0))) := hF1.below hb2
      have HFr2 : Hid (Fr X w W2) := (HFr.out.trans (SU.any hu1)).trans (SU.of_below hb2)
      have HPc : Hid (W2.heap[pc]? = some (.cells R 105)) := by rw [hpc, hW2]; exact heap_alloc_new _ _
      have HW2 : Hid _ := hW2
      have hsl : ∀ W, (Instr.sliceAt 105 (.pointer (some ⟨w1.heap.size, 0, none⟩)) (some (.int .i64 (a : Int))) none none).run Tryz.prog W = .ok (.slice (some ⟨w1.heap.size, a, none⟩) c c) W := fun W => by
        have := cont_l w1.heap.size 0 a ha32 W
        rw [← Hc.out, Nat.zero_add] at this
        exact this
      clear hBk hF1 hu1 hTx1 hpc hW2 hb2
      go_wp2_with (first
        | (refine wpList_store_row rfl 105 _ _ rfl w1.heap.size R rfl rfl 105 zc (heap_alloc_new _ _) (by rw [HRs.out]; exact contSize) (by rw [HRs.out]; rfl) HRo.out ?_; rw [setRow_alloc_new])
        | go_in)
      rw [← HW2.out, ← Hpc.out]
      clear HW2 hsl hz
      go_loopw [8, 36] (fun v s wr2 => ∃ (i' : Nat), j + i' < n ∧ i' ≤ c ∧ s = .int .i64 i' ∧ (∃ u, u = v ∧ Text wr2 B u (cutB t o (j + i'))) ∧ FlAt wr2 X vs vs (m + k + 1) F.iw F.bw (F.ino i).kind (F.ino i).links ((F.ino i).txt.length : Int) (six (fun j => (F.ino i).blk.getD j 0)) ∧ wr2.heap[pc]? = some (.cells R 105) ∧ Fr X w wr2) (fun _ s _ => c - (intOf s).toNat)
      case atStart => exact ⟨0, by omega, by omega, rfl, ⟨_, rfl, HTx2.out⟩, HF2.out, HPc.out, HFr2.out⟩
      case round =>
        clear HTx2 HF2 HFr2 HPc HTx HFr
        obtain ⟨i', hi', hic, rfl, ⟨v, rfl, htx⟩, hF, hpr, hfr⟩ := hrel
        obtain ⟨vb, vd, rfl⟩ := own_slice htx
        rw [cutB_len (by omega)] at htx ⊢
        have HFr : Hid (Fr X w wr) := hfr
        have HF : Hid (FlAt wr X vs vs (m + k + 1) F.iw F.bw (F.ino i).kind (F.ino i).links ((F.ino i).txt.length : Int) (six (fun j => (F.ino i).blk.getD j 0))) := hF
        have HPr : Hid (wr.heap[pc]? = some (.cells R 105)) := hpr
        have hBw : B ≤ wr.heap.size := by have := HBq.out; have := hfr.size; omega
        by_cases hlt : i' < c
        · have hii : (i' : Int) < (c : Int) := by omega
          have hx := HBy.out (o + j + i') (by omega)
          have hcell : wr.cell? ⟨pc, a + i', none⟩ = some (.int .u64 (t.getD (o + j + i') 0)) := by rw [cell_of_heap hpr]; exact HRg.out i' hlt
          obtain ⟨x, hxq⟩ : ∃ x, x = t.getD (o + j + i') 0 := ⟨_, rfl⟩
          rw [← hxq] at hx hcell
          have hwx := byte_wrap hx
          have Hx : Hid (0 ≤ x ∧ x < 256) := hx
          have Hxq : Hid (x = t.getD (o + j + i') 0) := hxq
          have HTl : Hid (Text wr B (.slice vb (j + i') vd) (cutB t o (j + i'))) := htx
          have HO1 : Hid ((wr.alloc (.cells #[.int .u8 x] 5)).ownsRow B 5 1 (.slice vb (j + i') vd) (j + i') (strCells ⟨(cutB t o (j + i')).toArray⟩)) := by
            have h1 : wr.ownsRow B 5 1 (.slice vb (j + i') vd) (cutB t o (j + i')).length (strCells ⟨(cutB t o (j + i')).toArray⟩) := htx
            rw [cutB_len (by omega)] at h1
            exact World.ownsRow.alloc h1 _
          have hpl : pc < wr.heap.size := lt_of_heap hpr
          clear hF hfr hpr htx hxq
          by_cases hend : j + i' + 1 = n
          · have heq : (((j : Int) + (i' : Int) + 1) == (n : Int)) = true := by simp; omega
            have heq2 : ((((j + i' + 1 : Nat)) : Int) == (n : Int)) = true := by simp; omega
            go_wp2_with (first
              | (at_builtin; refine wpList_append_lies _ rfl _ _ _ rfl B 5 i0 _ 1 1 Tryz.underlying192 hi0 hz0 hz1 hz2 rfl (by omega) (.slice vb (j + i') vd) (j + i') (strCells ⟨(cutB t o (j + i')).toArray⟩) rfl HO1.out ⟨wr.heap.size, 0, none⟩ 1 1 [.int .u8 x] rfl rfl (World.news_of_block (cs := #[.int .u8 x]) (t := 5) (fr := (0, 0)) (heap_alloc_new wr _)) (by simp [Value.oneCell']) (by omega) (by unfold maxLen; omega) (by omega) (by simp; omega) _ rfl ?_; intro gg cap2 w5 hown5 hgrow hat hlt5)
              | go_in)
            go_step3
            have hcut : Text w5 B (.slice (some ⟨gg, 0, none⟩) n cap2) (cutB t o n) := by
              unfold Text
              rw [cutB_len ho, ← hend, ← cutB_snoc (by omega), ← Nat.add_assoc, ← Hxq.out, ← strCells_snoc _ Hx.out]
              simpa [hend] using hown5
            obtain ⟨f5, g5⟩ := (HF.out.below (below_alloc wr (.cells #[.int .u8 x] 5))).grown HO1.out (by have := HBq.out; omega) hgrow
            have hd5 := f5.dr.disk
            have HJ : Hid (Text w5 B (.slice (some ⟨gg, 0, none⟩) n cap2) (cutB t o n) ∧ (Dk w5 X.B X.n vs (m + 2048)) ∧ Fr X w w5) := by
              exact ⟨hcut, hd5.mono (by omega), (HFr.out.trans (SU.of_below (below_alloc wr _))).trans g5⟩
            clear hcut f5 g5 hd5
            refine ⟨rfl, ?_⟩
            repeat (first | exact ⟨_, rfl, HJ.out.1, HJ.out.2.1, HJ.out.2.2⟩ | apply Exists.intro)
          · have heq : (((j : Int) + (i' : Int) + 1) == (n : Int)) = false := by simp; omega
            have heq2 : ((((j + i' + 1 : Nat)) : Int) == (n : Int)) = false := by simp; omega
            go_wp2_with (first
              | (at_builtin; refine wpList_append_lies _ rfl _ _ _ rfl B 5 i0 _ 1 1 Tryz.underlying192 hi0 hz0 hz1 hz2 rfl (by omega) (.slice vb (j + i') vd) (j + i') (strCells ⟨(cutB t o (j + i')).toArray⟩) rfl HO1.out ⟨wr.heap.size, 0, none⟩ 1 1 [.int .u8 x] rfl rfl (World.news_of_block (cs := #[.int .u8 x]) (t := 5) (fr := (0, 0)) (heap_alloc_new wr _)) (by simp [Value.oneCell']) (by omega) (by unfold maxLen; omega) (by omega) (by simp; omega) _ rfl ?_; intro gg cap2 w5 hown5 hgrow hat hlt5)
              | go_in)
            have hcut : Text w5 B (.slice (some ⟨gg, 0, none⟩) (j + i' + 1) cap2) (cutB t o (j + (i' + 1))) := by
              unfold Text
              rw [cutB_len (by omega), ← Nat.add_assoc, ← cutB_snoc (by omega), ← Nat.add_assoc, ← Hxq.out, ← strCells_snoc _ Hx.out]
              exact hown5
            obtain ⟨f5, g5⟩ := (HF.out.below (below_alloc wr (.cells #[.int .u8 x] 5))).grown HO1.out (by have := HBq.out; omega) hgrow
            have hp5 : w5.heap[pc]? = some (.cells R 105) := by
              rw [hgrow.block pc (by simp; omega) (fun e => by
                obtain ⟨_, cs, h2⟩ := own_type HO1.out e.symm
                rw [Below.heap_alloc _ _ _ hpl, HPr.out] at h2
                simp only [Option.some.injEq, Obj.cells.injEq] at h2
                exact absurd h2.2.1 (by decide)), Below.heap_alloc _ _ _ hpl]
              exact HPr.out
            have HJ : Hid (Text w5 B (.slice (some ⟨gg, 0, none⟩) (j + i' + 1) cap2) (cutB t o (j + (i' + 1))) ∧ FlAt w5 X vs vs (m + k + 1) F.iw F.bw (F.ino i).kind (F.ino i).links ((F.ino i).txt.length : Int) (six (fun j => (F.ino i).blk.getD j 0)) ∧ w5.heap[pc]? = some (.cells R 105) ∧ Fr X w w5) := ⟨hcut, f5, hp5, (HFr.out.trans (SU.of_below (below_alloc wr _))).trans g5⟩
            clear hcut f5 g5 hp5 hown5 hgrow hat hlt5
            go_roundw
            case rel => exact ⟨i' + 1, by omega, by omega, by go_num, ⟨_, rfl, HJ.out.1⟩, HJ.out.2.1, HJ.out.2.2.1, HJ.out.2.2.2⟩
            case measure => simp [intOf]; omega
        · have hii : ¬ (i' : Int) < (c : Int) := by omega
          have HTl : Hid (Text wr B (.slice vb (j + i') vd) (cutB t o (j + i'))) := htx
          have hic2 : i' = c := by omega
          have Hic : Hid (i' = c) := hic2
          have hpos : o + (j + i') = 32 * (k + 1) := by omega
          have Hpos : Hid (o + (j + i') = 32 * (k + 1)) := hpos
          clear hF hfr hpr htx hic2 hpos
          go_wp2
          go_roundw
          case rel =>
            have h1 := Hpos.out
            exact ⟨_, _, _, .int .i64 ((k + 1 : Nat) : Int), ⟨j + i', by omega, k + 1, rfl, by omega, Or.inr (by omega), HTl.out, HF.out, HFr.out⟩, rfl, rfl, rfl, by simp⟩
          case measure => simp [intOf]; omega
  · rintro a' w' ⟨u0, u1, u2, u3, u4, u5, u6, u7, u9, u10, u11, u12, u13, u14, u15, u16, u17, u18, u19, u20, u21, u22, u23, u24, u25, u26, u27, u28, u29, u30, u31, u32, u33, u34, u35, u36, u37, u38, u39, u40, u41, u42, u43, u44, u45, u46, u47, u48, u49, u50, u51, v, rfl, htx, hd, hfr⟩
    have hcv := htx.string
    obtain ⟨va, vc, rfl⟩ := own_slice htx
    have HD : Hid (Dk w' X.B X.n vs (m + 2048)) := hd
    have HFr : Hid (Fr X w w') := hfr
    clear htx hd hfr
    generalize (cutB t o n).length = N at *
    go_wp2
    simp only [Exit.jump]
    go_ret2
    exact ⟨rfl, HD.out, HFr.out⟩
end
end Go.Proofs.YtcjpahnlckfgoaaGreatDoor
