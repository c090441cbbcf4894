/- A table and a TLB side by side; and that the chapter's examples come out as it says. -/
import Derived.Test.YthkffhfjkddpkaaMmuH
namespace Go.Proofs.Ythkffhfjkddpkaa
open Go.RowKit
set_option linter.unusedVariables false

/-- A table and a TLB that do not lie over each other. -/
structure Mach (w : World) (t mb b : Nat) (v : Value) (f : Int → Option (Int × Bool)) (ks : List (Int × Int × Bool)) : Prop where
  tbl : TblAt w t mb f
  tlb : TlbAt w b v ks
  n1 : b ≠ t
  n2 : v.ownBlock ≠ some t
  n3 : b ≠ mb
  n4 : v.ownBlock ≠ some mb
  len : ks.length ≤ 2

/-- Only the map, the TLB and its row are turned; the row is the old one or a new one. -/
structure Next (mb b : Nat) (v v' : Value) (w w' : World) : Prop where
  upd : UpdP (fun k => k = mb ∨ k = b ∨ v.ownBlock = some k) w w'
  own : ∀ g, v'.ownBlock = some g → v.ownBlock = some g ∨ w.heap.size ≤ g

theorem Next.refl (mb b : Nat) (v : Value) (w : World) : Next mb b v v w w := ⟨UpdP.refl _ _, fun g h => Or.inl h⟩
theorem Next.of_below {mb b : Nat} {v : Value} {w w' : World} (h : Below w.heap.size w w') : Next mb b v v w w' := ⟨UpdP.of_below h, fun g h => Or.inl h⟩
theorem Next.trans {mb b : Nat} {v v' v'' : Value} {w w' w'' : World} (h : Next mb b v v' w w') (k : Next mb b v' v'' w' w'') : Next mb b v v'' w w'' := by
  refine ⟨⟨k.upd.os.trans h.upd.os, k.upd.tape.trans h.upd.tape, k.upd.output.trans h.upd.output, Nat.le_trans h.upd.size k.upd.size, fun j hj hp => ?_⟩, fun g hg => ?_⟩
  · refine (k.upd.block j (Nat.lt_of_lt_of_le hj h.upd.size) ?_).trans (h.upd.block j hj hp)
    rintro (e | e | e)
    · exact hp (Or.inl e)
    · exact hp (Or.inr (Or.inl e))
    · rcases h.own j e with o | o
      · exact hp (Or.inr (Or.inr o))
      · omega
  · rcases k.own g hg with o | o
    · exact h.own g o
    · exact Or.inr (Nat.le_trans h.upd.size o)
theorem Next.below {mb b B : Nat} {v v' : Value} {w w' : World} (h : Next mb b v v' w w') (h1 : B ≤ mb) (h2 : B ≤ b) (h3 : ∀ g, v.ownBlock = some g → B ≤ g) (hs : B ≤ w.heap.size) : Below B w w' :=
  h.upd.below (fun k hk => hk.elim (fun e => by omega) (fun r => r.elim (fun e => by omega) (fun e => h3 k e))) hs

theorem Mach.below {w w' : World} {t mb b : Nat} {v : Value} {f : Int → Option (Int × Bool)} {ks : List (Int × Int × Bool)} (h : Mach w t mb b v f ks) (hb : Below w.heap.size w w') : Mach w' t mb b v f ks :=
  ⟨h.tbl.below hb, h.tlb.below hb, h.n1, h.n2, h.n3, h.n4, h.len⟩

theorem Mach.turnTbl {w w' : World} {t mb b : Nat} {v : Value} {f f' : Int → Option (Int × Bool)} {ks : List (Int × Int × Bool)} (h : Mach w t mb b v f ks) (ht : TblAt w' t mb f') (hu : Upd mb w w') : Mach w' t mb b v f' ks ∧ Next mb b v v w w' :=
  ⟨⟨ht, h.tlb.keep (hu.block b h.tlb.blt h.n3) (fun g hg => hu.block g (h.tlb.glt g hg) (fun e => h.n4 (by rw [hg, e]))), h.n1, h.n2, h.n3, h.n4, h.len⟩, ⟨hu.p _ (Or.inl rfl), fun g hg => Or.inl hg⟩⟩

theorem Mach.turnTlb {w w' : World} {t mb b : Nat} {v v' : Value} {f : Int → Option (Int × Bool)} {ks ks' : List (Int × Int × Bool)} (h : Mach w t mb b v f ks) (hT : TlbAt w' b v' ks') (hl : ks'.length ≤ 2) (ho : ∀ g, v'.ownBlock = some g → v.ownBlock = some g ∨ w.heap.size ≤ g)
    (hu : UpdP (fun k => k = b ∨ v.ownBlock = some k) w w') : Mach w' t mb b v' f ks' ∧ Next mb b v v' w w' := by
  have hnew : ∀ k, k < w.heap.size → v.ownBlock ≠ some k → v'.ownBlock ≠ some k := by
    intro k hk hn e
    rcases ho k e with o | o
    · exact hn o
    · omega
  refine ⟨⟨h.tbl.keep (hu.block t h.tbl.lt ?_) (hu.block mb h.tbl.mlt ?_), hT, h.n1, hnew t h.tbl.lt h.n2, h.n3, hnew mb h.tbl.mlt h.n4, hl⟩, ⟨hu.mono (fun k hk => hk.elim (fun e => Or.inr (Or.inl e)) (fun e => Or.inr (Or.inr e))), ho⟩⟩
  · rintro (e | e)
    · exact h.n1 e.symm
    · exact h.n2 e
  · rintro (e | e)
    · exact h.n3 e.symm
    · exact h.n4 e

theorem keepL_len {ks : List (Int × Int × Bool)} (e : Int × Int × Bool) (h : ks.length ≤ 2) : (keepL ks e).length ≤ 2 := by
  unfold keepL
  split
  · simp; omega
  · simp; omega
theorem twalkL_len {f : Int → Option (Int × Bool)} {ks : List (Int × Int × Bool)} (a : Int) (h : ks.length ≤ 2) : (twalkL f ks a).length ≤ 2 := by
  unfold twalkL
  split
  · exact h
  · split
    · exact h
    · split
      · exact keepL_len _ h
      · exact h

theorem mmap_at {w : World} {t mb b : Nat} {v : Value} {f : Int → Option (Int × Bool)} {ks : List (Int × Int × Bool)} (h : Mach w t mb b v f ks) (k : Int) (x : Int × Bool) :
    Calls Try.prog 9 #[.pointer (some ⟨t, 0, none⟩), .int .i64 k, pv x] w fun e w' => e = .returned (.int .i64 (mapV k x)) ∧ Mach w' t mb b v (mapF f k x) ks ∧ Next mb b v v w w' :=
  (map_at t mb f k x w h.tbl).mono fun e w' ⟨h1, h2, h3⟩ => ⟨h1, h.turnTbl h2 h3⟩
theorem munmap_at {w : World} {t mb b : Nat} {v : Value} {f : Int → Option (Int × Bool)} {ks : List (Int × Int × Bool)} (h : Mach w t mb b v f ks) (k : Int) :
    Calls Try.prog 11 #[.pointer (some ⟨t, 0, none⟩), .int .i64 k] w fun e w' => e = .returned (.int .i64 (unmapV f k)) ∧ Mach w' t mb b v (unmapF f k) ks ∧ Next mb b v v w w' :=
  (unmap_at t mb f k w h.tbl).mono fun e w' ⟨h1, h2, h3⟩ => ⟨h1, h.turnTbl h2 h3⟩
theorem mwalk_at {w : World} {t mb b : Nat} {v : Value} {f : Int → Option (Int × Bool)} {ks : List (Int × Int × Bool)} (h : Mach w t mb b v f ks) (a : Int) (wr : Bool) (h0 : 0 ≤ a) :
    Calls Try.prog 13 #[.pointer (some ⟨t, 0, none⟩), .int .u64 a, .bool wr] w fun e w' => e = .returned (t3 (walkV f a wr)) ∧ Mach w' t mb b v f ks ∧ Next mb b v v w w' :=
  (walk_at t mb f a wr w h.tbl h0).mono fun e w' ⟨h1, h2⟩ => ⟨h1, h.below h2, Next.of_below h2⟩
theorem mtwalk_at {w : World} {t mb b : Nat} {v : Value} {f : Int → Option (Int × Bool)} {ks : List (Int × Int × Bool)} (h : Mach w t mb b v f ks) (a : Int) (wr : Bool) (h0 : 0 ≤ a) :
    Calls Try.prog 15 #[.pointer (some ⟨b, 0, none⟩), .pointer (some ⟨t, 0, none⟩), .int .u64 a, .bool wr] w fun e w' => e = .returned (t4 (twalkV f ks a wr).1 (twalkV f ks a wr).2) ∧ ∃ v', Mach w' t mb b v' f (twalkL f ks a) ∧ Next mb b v v' w w' :=
  (twalk_at b v ks t mb f a wr w h.tlb h.tbl h.len h0 h.n1 h.n2 h.n3 h.n4).mono fun e w' ⟨h1, v', h2, h3, h4⟩ => ⟨h1, v', h.turnTlb h2 (twalkL_len a h.len) h3 h4⟩
theorem mdrop_at {w : World} {t mb b : Nat} {v : Value} {f : Int → Option (Int × Bool)} {ks : List (Int × Int × Bool)} (h : Mach w t mb b v f ks) (p : Int) :
    Calls Try.prog 17 #[.pointer (some ⟨b, 0, none⟩), .int .i64 p] w fun e w' => e = .returned (.tuple #[]) ∧ ∃ v', Mach w' t mb b v' f (filt ks p) ∧ Next mb b v v' w w' :=
  (drop_at b v ks p w h.tlb (Nat.le_trans h.len (by omega))).mono fun e w' ⟨h1, v', h2, h3, h4⟩ => ⟨h1, v', h.turnTlb h2 (Nat.le_trans (filt_le _ _) h.len) (fun g hg => Or.inl (h3 ▸ hg)) h4⟩
theorem mflush_at {w : World} {t mb b : Nat} {v : Value} {f : Int → Option (Int × Bool)} {ks : List (Int × Int × Bool)} (h : Mach w t mb b v f ks) :
    Calls Try.prog 19 #[.pointer (some ⟨b, 0, none⟩)] w fun e w' => e = .returned (.tuple #[]) ∧ ∃ v', Mach w' t mb b v' f [] ∧ Next mb b v v' w w' :=
  (flush_at b v ks w h.tlb).mono fun e w' ⟨h1, h2, h3⟩ => ⟨h1, _, h.turnTlb h2 (by simp) (fun g hg => by simp [Value.ownBlock] at hg) (h3.p _ (Or.inl rfl))⟩

theorem mach_new {w w1 w2 : World} (h1 : TblAt w1 (w.heap.size + 1) w.heap.size (fun _ => none)) (b1 : Below w.heap.size w w1) (h2 : TlbAt w2 w1.heap.size (.slice none 0 0) []) (b2 : Below w1.heap.size w1 w2) :
    Mach w2 (w.heap.size + 1) w.heap.size w1.heap.size (.slice none 0 0) (fun _ => none) [] ∧ Below w.heap.size w w2 :=
  ⟨⟨h1.below b2, h2, by have := h1.lt; omega, by simp [Value.ownBlock], by have := h1.mlt; omega, by simp [Value.ownBlock], by simp⟩, b1.trans (b2.mono b1.size)⟩

set_option maxHeartbeats 2000000 in
theorem awake_any (w : World) : Calls Try.prog 27 #[] w fun e w' => e = .returned (.bool true) ∧ Below w.heap.size w w' := by
  go_enter Try.func27, Try.ntmps27
  go_wp2_with fail
  refine (new_any _).mono ?_
  rintro e w1 ⟨rfl, t1, b1⟩
  go_wp2_with fail
  refine (newTlb_any _).mono ?_
  rintro e w2 ⟨rfl, t2, b2⟩
  obtain ⟨m2, B2⟩ := mach_new t1 b1 t2 b2
  have hs1 : w.heap.size ≤ w1.heap.size := b1.size
  clear t1 b1 t2 b2
  go_wp2_with fail
  refine (mmap_at m2 1 (7, true)).mono ?_
  rintro e w3 ⟨rfl, m3, n3⟩
  rw [show mapV 1 (7, true) = 0 from rfl]
  go_wp2_with fail
  refine (mwalk_at m3 33 true (by omega)).mono ?_
  rintro e w4 ⟨rfl, m4, n4⟩
  rw [show walkV (mapF (fun _ => none) 1 (7, true)) 33 true = (7, 1, 0) from rfl]
  unfold t3
  go_wp2_with fail
  refine (mwalk_at m4 128 false (by omega)).mono ?_
  rintro e w5 ⟨rfl, m5, n5⟩
  rw [show walkV (mapF (fun _ => none) 1 (7, true)) 128 false = (0, 0, 102) from rfl]
  unfold t3
  go_wp2_with fail
  refine (mtwalk_at m5 33 true (by omega)).mono ?_
  rintro e w6 ⟨rfl, v6, m6, n6⟩
  rw [show twalkV (mapF (fun _ => none) 1 (7, true)) [] 33 true = ((7, 1, 0), false) from rfl]
  rw [show twalkL (mapF (fun _ => none) 1 (7, true)) [] 33 = [(1, 7, true)] from rfl] at m6
  unfold t4
  go_wp2_with fail
  refine (mmap_at m6 1 (9, false)).mono ?_
  rintro e w7 ⟨rfl, m7, n7⟩
  go_wp2_with fail
  refine (mtwalk_at m7 34 true (by omega)).mono ?_
  rintro e w8 ⟨rfl, v8, m8, n8⟩
  rw [show twalkV (mapF (mapF (fun _ => none) 1 (7, true)) 1 (9, false)) [(1, 7, true)] 34 true = ((7, 2, 0), true) from rfl]
  rw [show twalkL (mapF (mapF (fun _ => none) 1 (7, true)) 1 (9, false)) [(1, 7, true)] 34 = [(1, 7, true)] from rfl] at m8
  unfold t4
  go_wp2_with fail
  refine (mdrop_at m8 1).mono ?_
  rintro e w9 ⟨rfl, v9, m9, n9⟩
  rw [show filt [(1, 7, true)] 1 = [] from rfl] at m9
  go_wp2_with fail
  refine (mtwalk_at m9 34 true (by omega)).mono ?_
  rintro e w10 ⟨rfl, v10, m10, n10⟩
  rw [show twalkV (mapF (mapF (fun _ => none) 1 (7, true)) 1 (9, false)) [] 34 true = ((0, 0, 103), false) from rfl]
  unfold t4
  go_wp2
  go_ret
  refine ⟨rfl, B2.trans (Next.below (((((((n3.trans n4).trans n5).trans n6).trans n7).trans n8).trans n9).trans n10) (Nat.le_refl _) hs1 (fun g hg => by simp [Value.ownBlock] at hg) B2.size)⟩

end Go.Proofs.Ythkffhfjkddpkaa
