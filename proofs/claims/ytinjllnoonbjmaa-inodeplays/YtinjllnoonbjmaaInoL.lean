/- Package inode: open. -/
import Derived.Test.YtinjllnoonbjmaaInoK
namespace Go.Proofs.Ytinjllnoonbjmaa
open Go.RowKit
set_option linter.unusedVariables false

/-- A new draft. -/
theorem Dr.start {w : World} {B G n gt pt m : Nat} {vs : List Int} (h : Di.DiskAt w B G n vs gt pt) (h1 : gt ≤ m) (h2 : pt ≤ m) (hn : n ≤ 1024) :
    Dr (w.alloc (.cells #[sto B, .slice none 0 0, .int .i64 0] 78)) w.heap.size w.heap.size B G n vs vs m :=
  ⟨_, [], ⟨heap_alloc_new _ _, World.ownsRow_nil _ _ _ _, Nat.le_refl _, fun p hp => (by cases hp), List.nodup_nil, fun k _ _ => rfl, h.len, ⟨gt, pt, h.below (below_alloc _ _), by omega, h2⟩, ⟨lt_of_heap h.head, lt_of_heap h.row⟩, hn⟩⟩
/-- A file system on a disk. -/
structure FsAt (w : World) (B G : Nat) (F : FS) (vs : List Int) (m : Nat) : Prop where
  disk : ∃ gt pt, Di.DiskAt w B G F.n vs gt pt ∧ gt ≤ m ∧ pt ≤ m
  hold : Holds vs F
  inv : FInv F
section
variable {w w' : World} {B G m : Nat} {F : FS} {vs : List Int}
theorem FsAt.row (h : FsAt w B G F vs m) {i : Nat} (hi : i < 32) : rowW vs i = (F.ino i).row := by
  have hb := h.inv.n1
  have hl := h.hold.len
  refine list_ext_getD _ _ (by rw [rowW_len hl (by omega), Ino.row_len (h.inv.six hi)]) fun j hj => ?_
  rw [rowW_len hl (by omega)] at hj
  rw [rowW_get _ _ _ hj, h.hold.tab (i / 3) (by omega), tab_word h.inv hi hj]
theorem FInv.fit {F : FS} (h : FInv F) {i : Nat} (hi : i < 32) : ∀ x ∈ (F.ino i).row, Fit x := by
  have h1 := h.num i hi
  have h2 := h.max i hi
  intro x hx
  unfold Ino.row at hx
  simp only [List.mem_append, List.mem_cons, List.mem_map, List.not_mem_nil, or_false] at hx
  rcases hx with ((rfl | rfl | rfl) | ⟨b, hb, rfl⟩) | hx
  · exact ⟨h1.1, h1.2.1⟩
  · exact ⟨h1.2.2.1, h1.2.2.2⟩
  · exact ⟨by omega, by omega⟩
  · have := (h.data i hi b hb).2.1
    have := h.n2
    exact ⟨by omega, by omega⟩
  · rw [List.eq_of_mem_replicate hx]
    exact ⟨by omega, by omega⟩
/-- What open leaves. -/
def Opened (w w' : World) (B G i bf : Nat) (F : FS) (vs : List Int) (m : Nat) : Prop :=
  ∃ X : FX, X.bf = bf ∧ X.base = w.heap.size ∧ X.B = B ∧ X.G = G ∧ X.n = F.n ∧ X.i = i ∧ FlAt w' X vs vs m F.iw F.bw (F.ino i).kind (F.ino i).links ((F.ino i).txt.length : Int) (six (fun j => (F.ino i).blk.getD j 0)) ∧ Fr X w w'
set_option maxHeartbeats 4000000 in
set_option maxRecDepth 100000 in
theorem open_at (h : FsAt w B G F vs m) (hm : m ≤ 900000) (i : Nat) (hi : i < 32) :
    Calls Try.prog 43 #[sto B, .int .i64 (i : Int)] w fun e w' => ∃ bf, e = .returned (.tuple #[ptr bf, .int .i64 0]) ∧ Opened w w' B G i bf F vs m := by
  obtain ⟨gt, pt, hd, hg1, hg2⟩ := h.disk
  have hn1 := h.inv.n1
  have hn2 := h.inv.n2
  have hrow := h.row hi
  have hs := Dr.start hd hg1 hg2 hn2
  obtain ⟨W0, hW0⟩ : ∃ W, W = w.alloc (.cells #[sto B, .slice none 0 0, .int .i64 0] 78) := ⟨_, rfl⟩
  have hb0 : Below w.heap.size w W0 := by rw [hW0]; exact below_alloc _ _
  rw [← hW0] at hs
  have hH := dhead_at hs hm hb0.size hn1 hn2 h.inv.iw h.inv.bw h.inv.low (by rw [h.hold.head]; rfl)
  have HBG : Hid (B < w.heap.size ∧ G < w.heap.size) := ⟨lt_of_heap hd.head, lt_of_heap hd.row⟩
  have HW0 : Hid _ := hW0
  have HB0 : Hid (Below w.heap.size w W0) := hb0
  have HFit : Hid (∀ x ∈ rowW vs i, Fit x) := by rw [hrow]; exact h.inv.fit hi
  have HSix : Hid (rowW vs i = rowOf (F.ino i).kind (F.ino i).links ((F.ino i).txt.length : Int) (six (fun j => (F.ino i).blk.getD j 0))) := by rw [hrow]; exact row_six (h.inv.six hi)
  have HLn : Hid ((F.ino i).txt.length ≤ 192) := h.inv.max i hi
  clear h hd hg1 hg2 hrow hs hW0 hb0
  go_enter Try.func43, Try.ntmps43
  go_wp2_with fail
  rw [← HW0.out]
  refine hH.mono ?_
  rintro e w1 ⟨hi1, hb1, rfl, ⟨gi, gb, hbm⟩, hdr, hdt⟩
  have HT1 : Hid (DT w.heap.size B W0 w1) := hdt
  obtain ⟨W2, hW2⟩ : ∃ W, W = w1.alloc (.cells #[ptr hi1, ptr hb1] 81) := ⟨_, rfl⟩
  have hb2 : Below w1.heap.size w1 W2 := by rw [hW2]; exact below_alloc _ _
  have hI := dinode_at (hdr.below hb2) hm hn1 (by have := HB0.out.size; have := hdt.size; have := hb2.size; omega) i hi HFit.out
  have HBm : Hid (Bms W2 w.heap.size hi1 gi hb1 gb F.n F.iw F.bw) := (hbm.below hb2).mono HB0.out.size
  have HT2 : Hid (DT w.heap.size B W0 W2) := hdt.trans (DT.of_below hb2)
  have HP2 : Hid (W2.heap[w1.heap.size]? = some (.cells #[ptr hi1, ptr hb1] 81)) := by rw [hW2]; exact heap_alloc_new _ _
  have HW2 : Hid _ := hW2
  have Hs1 : Hid (w.heap.size < w1.heap.size) := by have h1 := hdt.size; have h2 : w.heap.size < W0.heap.size := (by rw [HW0.out]; simp); show _ < _; omega
  clear hH hbm hdr hdt hW2 hb2
  go_wp2_with fail
  rw [← HW2.out]
  refine hI.mono ?_
  rintro e w3 ⟨rfl, hdr, hdt⟩
  obtain ⟨sv, e0, e1, e2⟩ := hdr.cells
  have HD3 : Hid (Dr w3 w.heap.size w.heap.size B G F.n vs vs m) := hdr
  have HT3 : Hid (DT w.heap.size B W0 w3) := HT2.out.trans hdt
  have HBm3 : Hid (Bms w3 w.heap.size hi1 gi hb1 gb F.n F.iw F.bw) := HBm.out.dt hdt HBG.out.1
  have hp3 : w3.heap[w1.heap.size]? = some (.cells #[ptr hi1, ptr hb1] 81) := hdt.other HP2.out (by have := HBG.out; have := Hs1.out; omega) (by decide)
  have d0 : w3.cell? ⟨w1.heap.size, 0, none⟩ = some (ptr hi1) := by rw [cell_of_heap hp3]; rfl
  have d1 : w3.cell? ⟨w1.heap.size, 1, none⟩ = some (ptr hb1) := by rw [cell_of_heap hp3]; rfl
  have HP3 : Hid (w1.heap.size < w3.heap.size) := lt_of_heap hp3
  have hl1 : w1.heap.size < w3.heap.size := lt_of_heap hp3
  have hl0 : w.heap.size < w3.heap.size := by have := Hs1.out; omega
  rw [HSix.out]
  obtain ⟨b0, c1, c2, c3, c4, c5, hbl⟩ : ∃ a b c d e f, six (fun j => (F.ino i).blk.getD j 0) = [a, b, c, d, e, f] := ⟨_, _, _, _, _, _, rfl⟩
  have HBl : Hid (six (fun j => (F.ino i).blk.getD j 0) = [b0, c1, c2, c3, c4, c5]) := hbl
  rw [hbl]
  have hirow : irow (rowOf (F.ino i).kind (F.ino i).links ((F.ino i).txt.length : Int) [b0, c1, c2, c3, c4, c5]) = #[.int .i64 (F.ino i).kind, .int .i64 (F.ino i).links, .int .i64 ((F.ino i).txt.length : Int), .int .i64 (b0 : Int), .int .i64 (c1 : Int), .int .i64 (c2 : Int), .int .i64 (c3 : Int), .int .i64 (c4 : Int), .int .i64 (c5 : Int)] := rfl
  rw [hirow]
  obtain ⟨kd, hkd⟩ : ∃ k, k = (F.ino i).kind := ⟨_, rfl⟩
  obtain ⟨lk, hlk⟩ : ∃ k, k = (F.ino i).links := ⟨_, rfl⟩
  obtain ⟨sz, hsz⟩ : ∃ k, k = (F.ino i).txt.length := ⟨_, rfl⟩
  have HKd : Hid (kd = (F.ino i).kind ∧ lk = (F.ino i).links ∧ sz = (F.ino i).txt.length) := ⟨hkd, hlk, hsz⟩
  have hmm : min (max (sz : Int) 0) 192 = (sz : Int) := by have := HLn.out; omega
  have hmm2 : min (sz : Int) 192 = (sz : Int) := by have := HLn.out; omega
  rw [← hkd, ← hlk, ← hsz]
  clear hI hdr hdt e0 e1 hp3 hbl hirow hkd hlk hsz
  go_wp2
  go_ret2
  have hb5 := (below_alloc w3 (.cells #[.int .i64 kd, .int .i64 lk, .int .i64 (sz : Int), .int .i64 (b0 : Int), .int .i64 (c1 : Int), .int .i64 (c2 : Int), .int .i64 (c3 : Int), .int .i64 (c4 : Int), .int .i64 (c5 : Int)] 47)).trans ((below_alloc _ (.cells #[ptr w.heap.size, ptr hi1, ptr hb1, .int .i64 (i : Int), .int .i64 kd, .int .i64 lk, .int .i64 (sz : Int), .int .i64 (b0 : Int), .int .i64 (c1 : Int), .int .i64 (c2 : Int), .int .i64 (c3 : Int), .int .i64 (c4 : Int), .int .i64 (c5 : Int)] 95)).mono (by simp))
  refine ⟨w3.heap.size + 1, rfl, ⟨w.heap.size, w3.heap.size + 1, w.heap.size, hi1, gi, hb1, gb, B, G, F.n, i⟩, rfl, rfl, rfl, rfl, rfl, rfl, ⟨?_, HD3.out.below hb5, HBm3.out.below hb5, six_len _, ?_⟩, ?_⟩
  · rw [HBl.out, ← HKd.out.1, ← HKd.out.2.1, ← HKd.out.2.2]
    exact heap_alloc2_new w3 _ _
  · show w.heap.size ≤ w3.heap.size + 1
    have := HT3.out.size
    have := HB0.out.size
    omega
  · exact ((UpdP.of_below HB0.out).trans (DT.fr (X := ⟨w.heap.size, w3.heap.size + 1, w.heap.size, hi1, gi, hb1, gb, B, G, F.n, i⟩) HT3.out)).trans (UpdP.of_below hb5)
end
end Go.Proofs.Ytinjllnoonbjmaa
