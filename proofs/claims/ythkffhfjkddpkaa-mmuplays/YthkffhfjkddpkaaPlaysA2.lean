/- The table, the TLB, their references and a deed side by side: each call's contract from that to that. -/
import Derived.Test.YthkffhfjkddpkaaRefW21
import Derived.Test.YthkffhfjkddpkaaRefW22
import Derived.Test.YthkffhfjkddpkaaDeeds2
namespace Go.Proofs.Ythkffhfjkddpkaa
open Go.RowKit
set_option linter.unusedVariables false

/-- What the reference TLB's Walk answers and keeps is what the TLB's does. -/
theorem rtwalk_at (c : Nat) (v : Value) (ks : List (Int × Int × Bool)) (x : Nat) (f : Int → Option (Int × Bool)) (a : Int) (wr : Bool) (w : World) (h : RTlb w c v ks) (hx : RTbl w x f) (hn : ks.length ≤ 2) (h0 : 0 ≤ a) :
    Calls Try.prog 16 #[.pointer (some ⟨c, 0, none⟩), .pointer (some ⟨x, 0, none⟩), .int .u64 a, .bool wr] w fun e w' => e = .returned (t4 (twalkV f ks a wr).1 (twalkV f ks a wr).2) ∧
      ∃ v', RTlb w' c v' (twalkL f ks a) ∧ (∀ g, v'.ownBlock = some g → v.ownBlock = some g ∨ w.heap.size ≤ g) ∧ Upd c w w' := by
  by_cases h1 : 128 ≤ a
  · have e1 : twalkV f ks a wr = ((0, 0, 102), false) := by simp [twalkV, h1]
    have e2 : twalkL f ks a = ks := by simp [twalkL, h1]
    go_enter Try.func16, Try.ntmps16
    go_wp2
    (try simp only [Exit.inBlock, Exit.then])
    refine bodyPost_ret (results_tmp4 rfl _ _ _) rfl ?_
    exact ⟨by rw [e1]; rfl, v, by rw [e2]; exact h, fun g hg => Or.inl hg, Upd.refl _ _⟩
  · have hlt : a < 128 := by omega
    cases hf : findV ks (a / 32) with
    | some y =>
      have e1 : twalkV f ks a wr = (reachV y a wr, true) := by simp [twalkV, h1, hf]
      have e2 : twalkL f ks a = ks := by simp [twalkL, h1, hf]
      rw [e1, e2]
      exact rtwalk_hit c v ks x a wr y w h hn h0 hlt hf
    | none =>
      have hno : noneTo ks (a / 32) ks.length := by
        intro i e hi he hp
        have : findV ks (a / 32) ≠ none := by
          unfold findV
          rw [Ne, Option.map_eq_none_iff, List.find?_eq_none]
          intro hh
          exact hh e (List.mem_of_getElem? he) (by simpa using hp)
        exact this hf
      cases hg : f (a / 32) with
      | none =>
        have e1 : twalkV f ks a wr = ((0, 0, 102), false) := by simp [twalkV, hf, hg]
        have e2 : twalkL f ks a = ks := by simp [twalkL, hf, hg]
        have hd : decide (128 ≤ a) = false := by simp; omega
        have hat := rat_at x f (a / 32) w hx
        rw [hg] at hat
        clear h1
        go_enter Try.func16, Try.ntmps16
        go_wp2_with fail
        refine (rfind_at c v ks (a / 32) w h (by omega)).mono ?_
        rintro o w1 ⟨⟨rfl, _⟩ | ⟨k, e, rfl, _, he, hpe⟩, rfl⟩
        · go_wp2_with fail
          refine hat.mono ?_
          rintro e w2 ⟨rfl, hb2⟩
          simp only [pv, Option.getD_none, Option.isSome_none]
          go_wp2
          (try simp only [Exit.inBlock, Exit.then])
          refine bodyPost_ret (results_tmp4 rfl _ _ _) rfl ?_
          have hb : Below w1.heap.size w1 (w2.alloc (.cells #[.int .i64 0, .bool false] 29)) := hb2.alloc hb2.size _
          exact ⟨by rw [e1]; rfl, v, by rw [e2]; exact h.below hb, fun g hg => Or.inl hg, Upd.of_below hb⟩
        · exact absurd hpe (hno k e (List.getElem?_eq_some_iff.1 he).1 he)
      | some y =>
        have e1 : twalkV f ks a wr = (reachV y a wr, false) := by simp [twalkV, h1, hf, hg]
        have e2 : twalkL f ks a = keepL ks (a / 32, y) := by simp [twalkL, h1, hf, hg]
        have e3 := findV_keep y hno hn
        rw [e1, e2]
        match ks, hn, h, hno, e3 with
        | [], _, h, hno, e3 => exact rtwalk_0 c v x f a wr y w h hx h0 hlt hno hg _ rfl e3
        | [ka], _, h, hno, e3 => exact rtwalk_1 c v ka x f a wr y w h hx h0 hlt hno hg _ rfl e3
        | [ka, kb], _, h, hno, e3 => exact rtwalk_2 c v ka kb x f a wr y w h hx h0 hlt hno hg _ rfl e3
        | _ :: _ :: _ :: _, hn, _, _, _ => simp at hn

/-- All side by side, and a deed in block d. -/
structure Duo (w0 w : World) (t mb b x c d : Nat) (row : Array Value) (v u : Value) (f g : Int → Option (Int × Bool)) (ks ls : List (Int × Int × Bool)) : Prop where
  m : Mach w t mb b v f ks
  r : RTbl w x g
  l : RTlb w c u ls
  ll : ls.length ≤ 2
  old : Below w0.heap.size w0 w
  low : w0.heap.size ≤ mb ∧ w0.heap.size ≤ b ∧ w0.heap.size ≤ x ∧ w0.heap.size ≤ c
  vlow : ∀ k, v.ownBlock = some k → w0.heap.size ≤ k
  sx : x ≠ mb ∧ x ≠ b ∧ v.ownBlock ≠ some x
  sc : c ≠ mb ∧ c ≠ b ∧ v.ownBlock ≠ some c ∧ c ≠ x
  su : ∀ k, u.ownBlock = some k → k ≠ mb ∧ k ≠ b ∧ v.ownBlock ≠ some k ∧ k ≠ x ∧ k ≠ c
  st : t ≠ x ∧ t ≠ c
  deed : w.heap[d]? = some (.cells row 40)
  sd : d ≠ mb ∧ d ≠ b ∧ v.ownBlock ≠ some d ∧ d ≠ x ∧ d ≠ c

section
variable {w0 w w' : World} {t mb b x c d : Nat} {row : Array Value} {v v' u u' : Value} {f g f' g' : Int → Option (Int × Bool)} {ks ls ks' ls' : List (Int × Int × Bool)}

theorem Duo.below (h : Duo w0 w t mb b x c d row v u f g ks ls) (hb : Below w.heap.size w w') : Duo w0 w' t mb b x c d row v u f g ks ls :=
  ⟨h.m.below hb, h.r.below hb, h.l.below hb, h.ll, h.old.trans (hb.mono h.old.size), h.low, h.vlow, h.sx, h.sc, h.su, h.st, (hb.block _ (lt_of_heap h.deed)).trans h.deed, h.sd⟩

theorem Duo.turnM (h : Duo w0 w t mb b x c d row v u f g ks ls) (m : Mach w' t mb b v' f' ks') (n : Next mb b v v' w w') : Duo w0 w' t mb b x c d row v' u f' g ks' ls := by
  have hv : ∀ k, k < w.heap.size → v.ownBlock ≠ some k → v'.ownBlock ≠ some k := fun k hk hn e => (n.own k e).elim hn (fun o => by omega)
  have ux := h.r.lt
  have uc := h.l.lt
  have ud := lt_of_heap h.deed
  refine ⟨m, h.r.keep (n.far ux h.sx.1 h.sx.2.1 h.sx.2.2), h.l.keep n.upd.size (n.far uc h.sc.1 h.sc.2.1 h.sc.2.2.1) (fun k hk => n.far (h.l.glt k hk) (h.su k hk).1 (h.su k hk).2.1 (h.su k hk).2.2.1), h.ll,
    h.old.trans (n.below h.low.1 h.low.2.1 h.vlow h.old.size), h.low, fun k hk => (n.own k hk).elim (h.vlow k) (fun o => Nat.le_trans h.old.size o), ⟨h.sx.1, h.sx.2.1, hv x ux h.sx.2.2⟩, ⟨h.sc.1, h.sc.2.1, hv c uc h.sc.2.2.1, h.sc.2.2.2⟩,
    fun k hk => ?_, h.st, (n.far ud h.sd.1 h.sd.2.1 h.sd.2.2.1).trans h.deed, ⟨h.sd.1, h.sd.2.1, hv d ud h.sd.2.2.1, h.sd.2.2.2⟩⟩
  obtain ⟨a1, a2, a3, a4⟩ := h.su k hk
  exact ⟨a1, a2, hv k (h.l.glt k hk) a3, a4⟩

theorem Duo.turnR (h : Duo w0 w t mb b x c d row v u f g ks ls) (r : RTbl w' x g') (n : Upd x w w') : Duo w0 w' t mb b x c d row v u f g' ks ls := by
  have hm : Mach w' t mb b v f ks := ⟨h.m.tbl.keep (n.block t h.m.tbl.lt h.st.1) (n.block mb h.m.tbl.mlt (Ne.symm h.sx.1)), h.m.tlb.keep (n.block b h.m.tlb.blt (Ne.symm h.sx.2.1)) (fun k hk => n.block k (h.m.tlb.glt k hk) (fun e => h.sx.2.2 (by rw [hk, e]))), h.m.n1, h.m.n2, h.m.n3, h.m.n4, h.m.len⟩
  exact ⟨hm, r, h.l.keep n.size (n.block c h.l.lt h.sc.2.2.2) (fun k hk => n.block k (h.l.glt k hk) (h.su k hk).2.2.2.1), h.ll, h.old.trans (n.below h.low.2.2.1 h.old.size), h.low, h.vlow, h.sx, h.sc, h.su, h.st, (n.block d (lt_of_heap h.deed) h.sd.2.2.2.1).trans h.deed, h.sd⟩

theorem Duo.turnL (h : Duo w0 w t mb b x c d row v u f g ks ls) (l : RTlb w' c u' ls') (hl : ls'.length ≤ 2) (ho : ∀ k, u'.ownBlock = some k → u.ownBlock = some k ∨ w.heap.size ≤ k) (n : Upd c w w') : Duo w0 w' t mb b x c d row v u' f g ks ls' := by
  have hm : Mach w' t mb b v f ks := ⟨h.m.tbl.keep (n.block t h.m.tbl.lt h.st.2) (n.block mb h.m.tbl.mlt (Ne.symm h.sc.1)), h.m.tlb.keep (n.block b h.m.tlb.blt (Ne.symm h.sc.2.1)) (fun k hk => n.block k (h.m.tlb.glt k hk) (fun e => h.sc.2.2.1 (by rw [hk, e]))), h.m.n1, h.m.n2, h.m.n3, h.m.n4, h.m.len⟩
  refine ⟨hm, h.r.keep (n.block x h.r.lt (Ne.symm h.sc.2.2.2)), l, hl, h.old.trans (n.below h.low.2.2.2 h.old.size), h.low, h.vlow, h.sx, h.sc, fun k hk => ?_, h.st, (n.block d (lt_of_heap h.deed) h.sd.2.2.2.2).trans h.deed, h.sd⟩
  rcases ho k hk with o | o
  · exact h.su k o
  · have a1 := h.m.tbl.mlt
    have a2 := h.m.tlb.blt
    have a3 := h.r.lt
    have a4 := h.l.lt
    exact ⟨by omega, by omega, fun e => by have := h.m.tlb.glt k e; omega, by omega, by omega⟩

theorem d_map (h : Duo w0 w t mb b x c d row v u f g ks ls) (k : Int) (y : Int × Bool) : Calls Try.prog 9 #[.pointer (some ⟨t, 0, none⟩), .int .i64 k, .agg #[.int .i64 y.1, .bool y.2]] w fun e w' => e = .returned (.int .i64 (mapV k y)) ∧ Duo w0 w' t mb b x c d row v u (mapF f k y) g ks ls :=
  (mmap_at h.m k y).mono fun e w' ⟨h1, h2, h3⟩ => ⟨h1, h.turnM h2 h3⟩
theorem d_rmap (h : Duo w0 w t mb b x c d row v u f g ks ls) (k : Int) (y : Int × Bool) : Calls Try.prog 10 #[.pointer (some ⟨x, 0, none⟩), .int .i64 k, .agg #[.int .i64 y.1, .bool y.2]] w fun e w' => e = .returned (.int .i64 (mapV k y)) ∧ Duo w0 w' t mb b x c d row v u f (mapF g k y) ks ls :=
  (rmap_at x g k y w h.r).mono fun e w' ⟨h1, h2, h3⟩ => ⟨h1, h.turnR h2 h3⟩
theorem d_unmap (h : Duo w0 w t mb b x c d row v u f g ks ls) (k : Int) : Calls Try.prog 11 #[.pointer (some ⟨t, 0, none⟩), .int .i64 k] w fun e w' => e = .returned (.int .i64 (unmapV f k)) ∧ Duo w0 w' t mb b x c d row v u (unmapF f k) g ks ls :=
  (munmap_at h.m k).mono fun e w' ⟨h1, h2, h3⟩ => ⟨h1, h.turnM h2 h3⟩
theorem d_runmap (h : Duo w0 w t mb b x c d row v u f g ks ls) (k : Int) : Calls Try.prog 12 #[.pointer (some ⟨x, 0, none⟩), .int .i64 k] w fun e w' => e = .returned (.int .i64 (unmapV g k)) ∧ Duo w0 w' t mb b x c d row v u f (unmapF g k) ks ls :=
  (runmap_at x g k w h.r).mono fun e w' ⟨h1, h2, h3⟩ => ⟨h1, h.turnR h2 h3⟩
theorem d_walk (h : Duo w0 w t mb b x c d row v u f g ks ls) (a : Int) (wr : Bool) (h0 : 0 ≤ a) : Calls Try.prog 13 #[.pointer (some ⟨t, 0, none⟩), .int .u64 a, .bool wr] w fun e w' => e = .returned (t3 (walkV f a wr)) ∧ Duo w0 w' t mb b x c d row v u f g ks ls :=
  (walk_at t mb f a wr w h.m.tbl h0).mono fun e w' ⟨h1, h2⟩ => ⟨h1, h.below h2⟩
theorem d_rwalk (h : Duo w0 w t mb b x c d row v u f g ks ls) (a : Int) (wr : Bool) (h0 : 0 ≤ a) : Calls Try.prog 14 #[.pointer (some ⟨x, 0, none⟩), .int .u64 a, .bool wr] w fun e w' => e = .returned (t3 (walkV g a wr)) ∧ Duo w0 w' t mb b x c d row v u f g ks ls :=
  (rwalk_at x g a wr w h.r h0).mono fun e w' ⟨h1, h2⟩ => ⟨h1, h.below h2⟩
theorem d_twalk (h : Duo w0 w t mb b x c d row v u f g ks ls) (a : Int) (wr : Bool) (h0 : 0 ≤ a) : Calls Try.prog 15 #[.pointer (some ⟨b, 0, none⟩), .pointer (some ⟨t, 0, none⟩), .int .u64 a, .bool wr] w fun e w' => e = .returned (t4 (twalkV f ks a wr).1 (twalkV f ks a wr).2) ∧ ∃ v', Duo w0 w' t mb b x c d row v' u f g (twalkL f ks a) ls :=
  (mtwalk_at h.m a wr h0).mono fun e w' ⟨h1, v', h2, h3⟩ => ⟨h1, v', h.turnM h2 h3⟩
theorem d_rtwalk (h : Duo w0 w t mb b x c d row v u f g ks ls) (a : Int) (wr : Bool) (h0 : 0 ≤ a) : Calls Try.prog 16 #[.pointer (some ⟨c, 0, none⟩), .pointer (some ⟨x, 0, none⟩), .int .u64 a, .bool wr] w fun e w' => e = .returned (t4 (twalkV g ls a wr).1 (twalkV g ls a wr).2) ∧ ∃ u', Duo w0 w' t mb b x c d row v u' f g ks (twalkL g ls a) :=
  (rtwalk_at c u ls x g a wr w h.l h.r h.ll h0).mono fun e w' ⟨h1, u', h2, h3, h4⟩ => ⟨h1, u', h.turnL h2 (twalkL_len a h.ll) h3 h4⟩
theorem d_drop (h : Duo w0 w t mb b x c d row v u f g ks ls) (p : Int) : Calls Try.prog 17 #[.pointer (some ⟨b, 0, none⟩), .int .i64 p] w fun e w' => e = .returned (.tuple #[]) ∧ ∃ v', Duo w0 w' t mb b x c d row v' u f g (filt ks p) ls :=
  (mdrop_at h.m p).mono fun e w' ⟨h1, v', h2, h3⟩ => ⟨h1, v', h.turnM h2 h3⟩
theorem d_rdrop (h : Duo w0 w t mb b x c d row v u f g ks ls) (p : Int) : Calls Try.prog 18 #[.pointer (some ⟨c, 0, none⟩), .int .i64 p] w fun e w' => e = .returned (.tuple #[]) ∧ ∃ u', Duo w0 w' t mb b x c d row v u' f g ks (filt ls p) :=
  (rdrop_at c u ls p w h.l (Nat.le_trans h.ll (by omega))).mono fun e w' ⟨h1, u', h2, h3, h4⟩ => ⟨h1, u', h.turnL h2 (Nat.le_trans (filt_le _ _) h.ll) (fun k hk => Or.inr (h3 k hk)) h4⟩
theorem d_flush (h : Duo w0 w t mb b x c d row v u f g ks ls) : Calls Try.prog 19 #[.pointer (some ⟨b, 0, none⟩)] w fun e w' => e = .returned (.tuple #[]) ∧ ∃ v', Duo w0 w' t mb b x c d row v' u f g [] ls :=
  (mflush_at h.m).mono fun e w' ⟨h1, v', h2, h3⟩ => ⟨h1, v', h.turnM h2 h3⟩
theorem Duo.rflush (h : Duo w0 w t mb b x c d row v u f g ks ls) : Duo w0 (w.setCell ⟨c, 0, none⟩ (.slice none 0 0)) t mb b x c d row v (.slice none 0 0) f g ks [] :=
  h.turnL ⟨setCell_head h.l.head _, ⟨none, 0, rfl, by simp, by unfold maxLen; omega, fun hne => absurd rfl hne⟩, by simp [Value.ownBlock], fun g hg => by simp [Value.ownBlock] at hg⟩ (by simp) (fun k hk => by simp [Value.ownBlock] at hk) (Upd.setCell _ _ _ _)
theorem d_at (h : Duo w0 w t mb b x c d row v u f g ks ls) (k : Int) : Calls Try.prog 20 #[.pointer (some ⟨t, 0, none⟩), .int .i64 k] w fun e w' => e = .returned (.tuple #[pv ((f k).getD (0, false)), .bool (f k).isSome]) ∧ Below w.heap.size w w' := at_at t mb f k w h.m.tbl
theorem d_rat (h : Duo w0 w t mb b x c d row v u f g ks ls) (k : Int) : Calls Try.prog 21 #[.pointer (some ⟨x, 0, none⟩), .int .i64 k] w fun e w' => e = .returned (.tuple #[pv ((g k).getD (0, false)), .bool (g k).isSome]) ∧ Below w.heap.size w w' := rat_at x g k w h.r
theorem d_frames (h : Duo w0 w t mb b x c d row v u f g ks ls) : Calls Try.prog 23 #[.pointer (some ⟨t, 0, none⟩)] w fun e w' => ∃ z, e = .returned z ∧ IRow w' z (frs f 4) ∧ Below w.heap.size w w' :=
  (frames_at t mb f w h.m.tbl).mono fun e w' ⟨z, h1, h2, h3⟩ => ⟨z, h1, irow_of_own h2 (Nat.le_trans (frs_len f 4) (by omega)), h3⟩
theorem d_rframes (h : Duo w0 w t mb b x c d row v u f g ks ls) : Calls Try.prog 24 #[.pointer (some ⟨x, 0, none⟩)] w fun e w' => ∃ z, e = .returned z ∧ IRow w' z (frs g 4) ∧ Below w.heap.size w w' :=
  (rframes_at x g w h.r).mono fun e w' ⟨z, h1, h2, h3⟩ => ⟨z, h1, irow_of_own h2 (Nat.le_trans (frs_len g 4) (by omega)), h3⟩
theorem d_pages (h : Duo w0 w t mb b x c d row v u f g ks ls) : Calls Try.prog 25 #[.pointer (some ⟨b, 0, none⟩)] w fun e w' => ∃ z, e = .returned z ∧ IRow w' z (pgs ks) ∧ Below w.heap.size w w' :=
  (pages_at b v ks w h.m.tlb (Nat.le_trans h.m.len (by omega))).mono fun e w' ⟨z, h1, h2, h3⟩ => ⟨z, h1, irow_of_own (by simpa [pgs] using h2) (by have := h.m.len; simp [pgs]; omega), h3⟩
theorem d_rpages (h : Duo w0 w t mb b x c d row v u f g ks ls) : Calls Try.prog 26 #[.pointer (some ⟨c, 0, none⟩)] w fun e w' => ∃ z, e = .returned z ∧ IRow w' z (pgs ls) ∧ Below w.heap.size w w' :=
  (rpages_at c u ls w h.l (Nat.le_trans h.ll (by omega))).mono fun e w' ⟨z, h1, h2, h3⟩ => ⟨z, h1, irow_of_own (by simpa [pgs] using h2) (by have := h.ll; simp [pgs]; omega), h3⟩

end
end Go.Proofs.Ythkffhfjkddpkaa
