/- Package fds: appendFile, Encode. -/
/- All open files fit, whatever is called: plain. -/
import Derived.Test.YtnlhedpfhgoncabGreatDoorFdHTFdJ
set_option linter.all false
namespace Go.Proofs.YtnlhedpfhgoncabGreatDoor
open Go.RowKit
namespace Ow
end Ow
namespace Fd
open Ow
/-- A file that an open file may be. -/
structure Fit (x : Fl) : Prop where
  k1 : 1 ≤ x.kind
  k2 : x.kind ≤ 4
  i1 : 0 ≤ x.id
  i2 : x.id ≤ 1048576
  o1 : 0 ≤ x.off
  o2 : x.off ≤ 1048576
theorem own_far {w : World} {B1 B2 : Nat} {e1 e2 : TypeId} {s1 s2 n1 n2 : Nat} {v1 v2 : Value} {x1 x2 : List Value} (h1 : w.ownsRow B1 e1 s1 v1 n1 x1) (h2 : w.ownsRow B2 e2 s2 v2 n2 x2) (hne : e1 ≠ e2) {g : Nat} (hg : v1.ownBlock = some g) : some g ≠ v2.ownBlock := by
  intro e
  obtain ⟨c1, k1⟩ := own_type h1 hg
  obtain ⟨c2, k2⟩ := own_type h2 e.symm
  rw [k1] at k2
  simp only [Option.some.injEq, Obj.cells.injEq] at k2
  exact hne k2.2.1
theorem own_grown {w w' : World} {B1 B2 : Nat} {e1 e2 : TypeId} {s1 s2 n1 n2 : Nat} {v1 v2 : Value} {x1 x2 : List Value} (h1 : w.ownsRow B1 e1 s1 v1 n1 x1) (h2 : w.ownsRow B2 e2 s2 v2 n2 x2) (hne : e1 ≠ e2) (hg : w.grownBy w' v2.ownBlock) : w'.ownsRow B1 e1 s1 v1 n1 x1 :=
  ownsRow_at h1 (fun g hq => hg.block g (h1.lt g hq).2 (own_far h1 h2 hne hq))
set_option maxHeartbeats 2000000 in
theorem appendFile_at (B : Nat) (v : Value) (D : List Int) (x : Fl) (w : World) (hB : B ≤ w.heap.size) (hD : D.length ≤ 1000) (ho : w.ownsRow B 40 1 v D.length (uvs D)) (hx : Fit x) :
    Calls Tryz.prog 233 #[v, .agg x.row] w fun e w' => ∃ v', e = .returned v' ∧ w'.ownsRow B 40 1 v' (D ++ flW x).length (uvs (D ++ flW x)) ∧ w.grownBy w' v.ownBlock := by
  obtain ⟨i0, hi0, hzz⟩ := Option.map_eq_some_iff.1 wordInfo
  simp only [Prod.mk.injEq] at hzz
  obtain ⟨hz0, hz1, hz2⟩ := hzz
  obtain ⟨xk, xi, xo, xa, xr⟩ := x
  obtain ⟨k1, k2, i1, i2, o1, o2⟩ := hx
  dsimp only at k1 k2 i1 i2 o1 o2
  have HO : Hid (w.ownsRow B 40 1 v D.length (uvs D)) := ho
  clear ho
  unfold Fl.row
  dsimp only
  generalize hDl : D.length = dl at *
  have HDl : Hid (D.length = dl) := hDl
  clear hDl
  cases xa with
  | true =>
    go_enter Tryz.func233, Tryz.ntmps233
    go_wp2_with (at_builtin; refine wpList_append_lies _ rfl _ _ _ rfl B 40 i0 _ 1 8 Tryz.underlying46 hi0 hz0 hz1 hz2 rfl (by omega) v dl (uvs D) rfl (World.ownsRow.alloc (World.ownsRow.alloc HO.out _) _) ⟨w.heap.size + 1, 0, none⟩ 4 4 [.int .u64 xk, .int .u64 xi, .int .u64 xo, .int .u64 1] rfl rfl (World.news_of_block (cs := #[.int .u64 xk, .int .u64 xi, .int .u64 xo, .int .u64 1]) (t := 40) (fr := (0, 0)) (by have := heap_alloc_new (w.alloc (.cells #[.int .i64 xk, .int .i64 xi, .int .i64 xo, .bool true, .int .i64 xr] 121)) (.cells #[.int .u64 xk, .int .u64 xi, .int .u64 xo, .int .u64 1] 40); simpa using this)) (by simp [Value.oneCell']) (by omega) (by unfold maxLen; omega) (by omega) (by simp; omega) _ rfl ?_; intro gg capx w2 hown2 hgrow hat hlt2)
    go_ret
    refine ⟨_, rfl, ?_, grown_trans (grown_below _ (below_alloc2 _ _ _)) hgrow⟩
    rw [List.length_append, uvs_app, HDl.out]
    exact hown2
  | false =>
    go_enter Tryz.func233, Tryz.ntmps233
    go_wp2_with (at_builtin; refine wpList_append_lies _ rfl _ _ _ rfl B 40 i0 _ 1 8 Tryz.underlying46 hi0 hz0 hz1 hz2 rfl (by omega) v dl (uvs D) rfl (World.ownsRow.alloc (World.ownsRow.alloc HO.out _) _) ⟨w.heap.size + 1, 0, none⟩ 4 4 [.int .u64 xk, .int .u64 xi, .int .u64 xo, .int .u64 0] rfl rfl (World.news_of_block (cs := #[.int .u64 xk, .int .u64 xi, .int .u64 xo, .int .u64 0]) (t := 40) (fr := (0, 0)) (by have := heap_alloc_new (w.alloc (.cells #[.int .i64 xk, .int .i64 xi, .int .i64 xo, .bool false, .int .i64 xr] 121)) (.cells #[.int .u64 xk, .int .u64 xi, .int .u64 xo, .int .u64 0] 40); simpa using this)) (by simp [Value.oneCell']) (by omega) (by unfold maxLen; omega) (by omega) (by simp; omega) _ rfl ?_; intro gg capx w2 hown2 hgrow hat hlt2)
    go_ret
    refine ⟨_, rfl, ?_, grown_trans (grown_below _ (below_alloc2 _ _ _)) hgrow⟩
    rw [List.length_append, uvs_app, HDl.out]
    exact hown2
theorem FdAt.trange {w : World} {b : Nat} {S : FS} (h : FdAt w b S) : w.rangeAt b 160 (ivs (tabL S.t)) := by
  intro j u hu
  have hj : j < 48 := by have := (List.getElem?_eq_some_iff.1 hu).1; rwa [ivs_len, tabL_len] at this
  have : (ivs (tabL S.t))[j]? = some (.int .i64 (S.t j : Nat)) := by simp [ivs, tabL, hj]
  rw [this] at hu
  rw [h.tcell hj rfl]
  exact hu
theorem tab_index (g : Nat → Nat) (p : Nat) (hp : p < 8) (W : World) : (Instr.index 147 (.agg (tabR g)) (.int .i64 p)).run Tryz.prog W = .ok (.agg (six g p).toArray) W := by
  have h1 : (tabR g).extract (p * 6) (p * 6 + 6) = (six g p).toArray := by
    apply Array.ext
    · simp [tabR_size, six]; omega
    · intro i h1 h2
      have hi : i < 6 := by simpa [six] using h2
      rw [Array.getElem_extract]
      simp [tabR, irow, tabL, six]
  have hs : (sizeOf 145).run Tryz.prog W = .ok 6 W := by kernel_rfl
  have ha : (isAgg 145).run Tryz.prog W = .ok true W := by kernel_rfl
  have hi : 0 ≤ (p : Int) ∧ (p : Int) < (8 : Nat) := by omega
  simp only [Instr.index, Sem.run_bind, asIntOf, Sem.run_pure, Result.andThen_ok, run_underlying Tryz.underlying147, if_pos hi, hs, part, ha, if_true, Int.toNat_natCast, h1]
/-- The head's words, of the first k files. -/
def encHk (S : FS) (k : Nat) : List Int := ((ord S.t).length : Int) :: ((ord S.t).take k).flatMap (fun q => flW (S.f (q - 1)))
theorem encHk_all (S : FS) : encHk S (ord S.t).length = encH S := by unfold encHk encH; rw [List.take_length]
theorem encHk_succ (S : FS) (k q : Nat) (h : (ord S.t)[k]? = some q) : encHk S (k + 1) = encHk S k ++ flW (S.f (q - 1)) := by
  obtain ⟨hl, he⟩ := List.getElem?_eq_some_iff.1 h
  unfold encHk
  rw [List.take_succ_eq_append_getElem hl, List.flatMap_append, he]
  simp
theorem encHk_len (S : FS) (k : Nat) : (encHk S k).length ≤ 1 + 48 * 4 := by
  unfold encHk
  rw [List.length_cons, flat_len, List.length_take]
  have := ord_len48 S.t
  omega
theorem own_one {w : World} (B : Nat) (x : Int) (hB : B ≤ w.heap.size) : (w.alloc (.cells #[.int .u64 x] 40)).ownsRow B 40 1 (.slice (some ⟨w.heap.size, 0, none⟩) 1 1) 1 (uvs [x]) := by
  exact ⟨by simp [uvs], Or.inr ⟨w.heap.size, 1, #[.int .u64 x], rfl, hB, heap_alloc_new _ _, Nat.le_refl _, by unfold maxLen; omega, by simp, by simp [uvs]⟩⟩
theorem tabOne (g : Nat → Nat) : (tabR g).all (·.oneCell') = true := by
  unfold tabR irow
  simp [Value.oneCell']
theorem sixSize : (Tryz.prog.info? 145).map (·.size) = some 6 := by kernel_rfl
theorem sixOne (g : Nat → Nat) (p : Nat) : (six g p).toArray.all (·.oneCell') = true := by
  unfold six
  simp [Value.oneCell']
theorem ordI_get {t : Nat → Nat} {k q : Nat} (h : (ord t)[k]? = some q) : (ordI t 48)[k]? = some (q : Int) := by
  unfold ordI
  rw [List.getElem?_map]
  show Option.map _ (ord t)[k]? = _
  rw [h]
  rfl
/-- All open files fit. -/
def FitS (S : FS) : Prop := ∀ p, p < 32 → (S.f p).refs ≠ 0 → Fit (S.f p)
theorem fit_ord {S : FS} (hI : Inv S) (hF : FitS S) {k q : Nat} (h : (ord S.t)[k]? = some q) : 1 ≤ q ∧ q - 1 < 32 ∧ Fit (S.f (q - 1)) := by
  have hm := List.mem_of_getElem? h
  rw [mem_ord] at hm
  obtain ⟨h0, i, hi, e⟩ := hm
  have h3 := hI.pos hi (by omega)
  rw [e] at h3
  exact ⟨by omega, h3.1, hF _ h3.1 (by omega)⟩
/-- What Encode keeps: the tables counted anew in block G, the names in order, the words so far. -/
structure EnW (w wr : World) (S : FS) (G : Nat) (v1 v : Value) (D : List Int) : Prop where
  tab : wr.heap[G]? = some (.cells (tabR (inO S.t)) 147)
  ints : wr.ownsRow w.heap.size 3 1 v1 (ordI S.t 48).length (ivs (ordI S.t 48))
  own : wr.ownsRow w.heap.size 40 1 v D.length (uvs D)
  bel : Below w.heap.size w wr
theorem EnW.grown {w wr w2 : World} {S : FS} {G : Nat} {v1 v v2 : Value} {D E : List Int} (h : EnW w wr S G v1 v D) (hg : wr.grownBy w2 v.ownBlock) (ho : w2.ownsRow w.heap.size 40 1 v2 E.length (uvs E)) : EnW w w2 S G v1 v2 E := by
  refine ⟨?_, own_grown h.ints h.own (by decide) hg, ho, h.bel.trans (below_grown hg h.bel.size (ownsRow_low h.own))⟩
  rw [hg.block G (lt_of_heap h.tab) (fun e => ?_)]
  · exact h.tab
  · obtain ⟨c2, k2⟩ := own_type h.own e.symm
    rw [h.tab] at k2
    simp only [Option.some.injEq, Obj.cells.injEq] at k2
    exact absurd k2.2.1 (by decide)
set_option maxRecDepth 100000 in
set_option maxHeartbeats 8000000 in
theorem encode_at (b : Nat) (S : FS) (w : World) (h : FdAt w b S) (hI : Inv S) (hF : FitS S) :
    Calls Tryz.prog 180 #[.pointer (some ⟨b, 0, none⟩)] w fun e w' => ∃ v, e = .returned v ∧ w'.ownsRow w.heap.size 40 1 v (encW S).length (uvs (encW S)) ∧ Below w.heap.size w w' := by
  obtain ⟨i0, hi0, hzz⟩ := Option.map_eq_some_iff.1 wordInfo
  simp only [Prod.mk.injEq] at hzz
  obtain ⟨hz0, hz1, hz2⟩ := hzz
  have hne := ptr_eq b
  have HL : Hid (w.rangeAt b 160 (ivs (tabL S.t))) := h.trange
  have hIO := inOrder_at S.t hI.name w
  have HH : Hid (FdAt w b S) := h
  have HI : Hid (Inv S) := hI
  have HF : Hid (FitS S) := hF
  have hll : (ivs (tabL S.t)).length = 48 := by rw [ivs_len, tabL_len]
  have hol := ord_len48 S.t
  have HOL : Hid ((ordI S.t 48).length = (ord S.t).length) := ordI_len S.t 48
  clear h hI hF
  go_enter Tryz.func180, Tryz.ntmps180
  go_wp2_with (refine wpList_load_mid rfl 147 _ rfl b 160 rfl (ivs (tabL S.t)) _ HL.out Tryz.underlying147 rfl (by rw [hll]; exact tabSize) ?_)
  refine hIO.mono ?_
  rintro e w1 ⟨v1, rfl, hown1, hb1⟩
  rw [HOL.out] at hown1
  have HO1 : Hid (w1.ownsRow w.heap.size 3 1 v1 (ord S.t).length (ivs (ordI S.t 48))) := hown1
  obtain ⟨a1, c1, rfl⟩ := own_slice hown1
  have HB1 : Hid (Below w.heap.size w w1) := hb1
  have hs1 := hb1.size
  have HSz : Hid ((tabR (inO S.t)).size = 48) := tabR_size _
  clear hIO HL hown1 hb1 hll
  generalize hnl : (ord S.t).length = nl at *
  have HNl : Hid ((ord S.t).length = nl) := hnl
  clear hnl
  have hwn : IntKind.u64.wrap (nl : Int) = nl := by
    simp [IntKind.wrap, IntKind.bits, IntKind.signed]
    omega
  go_wp2_with (first
    | (refine wpList_store_row rfl 147 _ _ rfl w1.heap.size (tabR (inO S.t)) rfl rfl 147 _ (heap_alloc_new _ _) (by rw [HSz.out]; exact tabSize) (by rw [HSz.out]; rfl) (tabOne _) ?_; rw [setRow_alloc_new])
    | go_in)
  have hHk0 : encHk S 0 = [(nl : Int)] := by unfold encHk; rw [HNl.out]; rfl
  have HE0 : Hid (EnW w ((w1.alloc (.cells (tabR (inO S.t)) 147)).alloc (.cells #[.int .u64 nl] 40)) S w1.heap.size (.slice a1 nl c1) (.slice (some ⟨w1.heap.size + 1, 0, none⟩) 1 1) (encHk S 0)) := by
    have ho : w1.ownsRow w.heap.size 3 1 (.slice a1 nl c1) (ordI S.t 48).length (ivs (ordI S.t 48)) := by rw [HOL.out]; exact HO1.out
    refine ⟨?_, World.ownsRow.alloc (World.ownsRow.alloc ho _) _, ?_, (HB1.out.alloc hs1 _).alloc (by simp; omega) _⟩
    · rw [Below.heap_alloc _ _ _ (by simp)]
      exact heap_alloc_new _ _
    · rw [hHk0]
      have := own_one (w := w1.alloc (.cells (tabR (inO S.t)) 147)) w.heap.size nl (by simp; omega)
      rw [World.size_alloc] at this
      exact this
  generalize (w1.alloc (.cells (tabR (inO S.t)) 147)).alloc (.cells #[.int .u64 nl] 40) = W0 at *
  generalize (w1.heap.size + 1) = g0 at *
  generalize hG : w1.heap.size = G at *
  clear hG HO1 HB1 hHk0
  go_loopw [5, 28] (fun s i wr => ∃ (k : Nat) (v : Value), k ≤ nl ∧ i = .int .i64 k ∧ v = s ∧ EnW w wr S G (.slice a1 nl c1) v (encHk S k)) (fun _ i _ => nl - (intOf i).toNat)
  case atStart => exact ⟨0, _, by omega, rfl, rfl, HE0.out⟩
  case round =>
    clear HE0
    obtain ⟨k, v, hk, rfl, rfl, hE⟩ := hrel
    have HE : Hid (EnW w wr S G (.slice a1 nl c1) v (encHk S k)) := hE
    by_cases hlt : k < nl
    · obtain ⟨q, hq⟩ : ∃ q, (ord S.t)[k]? = some q := ⟨(ord S.t)[k]'(by rw [HNl.out]; exact hlt), List.getElem?_eq_getElem _⟩
      obtain ⟨hq1, hq2, hfit⟩ := fit_ord HI.out HF.out hq
      have HS : Hid (encHk S (k + 1) = encHk S k ++ flW (S.f (q - 1))) := encHk_succ S k q hq
      obtain ⟨a2, c2, e2, hrow⟩ := own_irow hE.ints
      simp only [Value.slice.injEq] at e2
      obtain ⟨rfl, e2, rfl⟩ := e2
      obtain ⟨gb, off, rfl, d0⟩ := hrow k q (ordI_get hq)
      obtain ⟨p, rfl⟩ : ∃ p, q = p + 1 := ⟨q - 1, by omega⟩
      rw [show p + 1 - 1 = p by omega] at hq2 hfit HS
      rw [Int.natCast_add, Int.natCast_one] at d0
      have hH := HH.out.below (hE.bel.mono (Nat.le_refl _))
      obtain ⟨x0, x1, x2, x3, x4⟩ := hH.cells hq2
      have hAf := appendFile_at w.heap.size v (encHk S k) (S.f p) wr hE.bel.size (by have := encHk_len S k; omega) hE.own hfit
      have hki : (k : Int) < (nl : Int) := by omega
      have hpi : (p : Int) < 32 := by omega
      generalize S.f p = x at *
      obtain ⟨xk, xi, xo, xa, xr⟩ := x
      unfold Fl.row at hAf
      dsimp only at *
      clear hE hq hfit hrow e2 hH
      go_wp2_with fail
      refine hAf.mono ?_
      rintro e w2 ⟨v2, rfl, hown2, hgrow⟩
      have HE2 : Hid (EnW w w2 S G (.slice (some ⟨gb, off, none⟩) nl c1) v2 (encHk S (k + 1))) := by
        rw [HS.out]
        exact HE.out.grown hgrow hown2
      clear hAf hown2 hgrow HE
      go_wp2
      go_roundw
      case rel => exact ⟨k + 1, v2, by omega, by go_num, rfl, HE2.out⟩
      case measure => simp [intOf]; omega
    · obtain rfl : k = nl := by omega
      have hal : encHk S k = encH S := by rw [← HNl.out]; exact encHk_all S
      rw [hal] at HE
      have HT : Hid (wr.heap[G]? = some (.cells (tabR (inO S.t)) 147 (0, 0))) := hE.tab
      have HE0 : Hid (EnW w wr S G (.slice a1 k c1) v (encH S ++ encN S (0 * 6))) := by
        have : encN S (0 * 6) = [] := rfl
        rw [this, List.append_nil]
        exact HE.out
      have hEl : (encH S).length ≤ 1 + 48 * 4 := by rw [encH_len]; have := ord_len48 S.t; omega
      clear hE HE hal
      go_wp2_with (refine wpList_load_row rfl 147 _ rfl G rfl 147 (tabR (inO S.t)) (0, 0) _ HT.out Tryz.underlying147 rfl (by rw [HSz.out]; exact tabSize) ?_)
      clear HT
      go_loopw [5, 43] (fun s i wr => ∃ (p : Nat) (v : Value), p ≤ 8 ∧ i = .int .i64 p ∧ v = s ∧ EnW w wr S G (.slice a1 k c1) v (encH S ++ encN S (p * 6))) (fun _ i _ => 8 - (intOf i).toNat)
      case atStart => exact ⟨0, _, by omega, rfl, rfl, HE0.out⟩
      case round =>
        clear HE0
        obtain ⟨p, v, hp, rfl, rfl, hE⟩ := hrel
        have HE : Hid (EnW w wr S G (.slice a1 k c1) v (encH S ++ encN S (p * 6))) := hE
        by_cases hlp : p < 8
        · have i1 : decide ((p : Int) < 8) = true := decide_eq_true (by omega)
          have hix := tab_index (inO S.t) p hlp
          have hs6 : (six (inO S.t) p).toArray.size = 6 := by simp [six]
          have hwz := hE.bel.size
          have HEa : Hid (EnW w (wr.alloc (.cells (six (inO S.t) p).toArray 145)) S G (.slice a1 k c1) v (encH S ++ encN S (p * 6))) := by
            refine ⟨?_, World.ownsRow.alloc hE.ints _, World.ownsRow.alloc hE.own _, hE.bel.alloc hwz _⟩
            rw [Below.heap_alloc _ _ _ (lt_of_heap hE.tab)]
            exact hE.tab
          clear hE HE
          go_wp2_with (first
            | (refine wpList_store_row rfl 145 _ _ rfl wr.heap.size (six (inO S.t) p).toArray rfl rfl 145 _ (heap_alloc_new _ _) (by rw [hs6]; exact sixSize) (by rw [hs6]; rfl) (sixOne _ _) ?_; rw [setRow_alloc_new])
            | (refine wpList_load_row rfl 145 _ rfl wr.heap.size rfl 145 (six (inO S.t) p).toArray (0, 0) _ (heap_alloc_new _ _) Tryz.underlying145 rfl (by rw [hs6]; exact sixSize) ?_))
          generalize hgp : wr.heap.size = gp at *
          clear hgp hix
          generalize wr.alloc (.cells (six (inO S.t) p).toArray 145) = W6 at *
          go_loopw [5, 47] (fun s i wr => ∃ (j : Nat) (v : Value), j ≤ 6 ∧ i = .int .i64 j ∧ v = s ∧ EnW w wr S G (.slice a1 k c1) v (encH S ++ encN S (p * 6 + j))) (fun _ i _ => 6 - (intOf i).toNat)
          case atStart => exact ⟨0, _, by omega, rfl, rfl, HEa.out⟩
          case round =>
            clear HEa
            obtain ⟨j, v, hj, rfl, rfl, hE⟩ := hrel
            have HE : Hid (EnW w wr S G (.slice a1 k c1) v (encH S ++ encN S (p * 6 + j))) := hE
            by_cases hlj : j < 6
            · have i2 : decide ((j : Int) < 6) = true := decide_eq_true (by omega)
              have hix := six_index (inO S.t) p j hlj
              have hwz2 := hE.bel.size
              have HN : Hid (encN S (p * 6 + (j + 1)) = encN S (p * 6 + j) ++ [(inO S.t (p * 6 + j) : Int)]) := encN_succ S (p * 6 + j)
              have HO : Hid (wr.ownsRow w.heap.size 40 1 v (encH S ++ encN S (p * 6 + j)).length (uvs (encH S ++ encN S (p * 6 + j)))) := hE.own
              have hDl : (encH S ++ encN S (p * 6 + j)).length ≤ 1000 := by rw [List.length_append, encN_len]; omega
              have hcn : inO S.t (p * 6 + j) ≤ 48 := by
                unfold inO cn
                split
                · omega
                · split
                  · rename_i hm
                    have := List.idxOf_lt_length_of_mem hm
                    have := ord_len48 S.t
                    omega
                  · omega
              have hEw := fun w2 v2 E => @EnW.grown w wr w2 S G (.slice a1 k c1) v v2 (encH S ++ encN S (p * 6 + j)) E hE
              have HEw : Hid _ := hEw
              generalize hD : encH S ++ encN S (p * 6 + j) = D at *
              generalize inO S.t (p * 6 + j) = x at *
              have HD : Hid (encH S ++ encN S (p * 6 + j) = D) := hD
              have hwx : IntKind.u64.wrap (x : Int) = x := by
                simp [IntKind.wrap, IntKind.bits, IntKind.signed]
                omega
              generalize hdl : D.length = dl at *
              have HDl : Hid (D.length = dl) := hdl
              clear hE hD HE hEw hdl
              go_wp2_with (at_builtin; refine wpList_append_lies _ rfl _ _ _ rfl w.heap.size 40 i0 _ 1 8 Tryz.underlying46 hi0 hz0 hz1 hz2 rfl (by omega) v dl (uvs D) rfl (World.ownsRow.alloc HO.out _) ⟨wr.heap.size, 0, none⟩ 1 1 [.int .u64 x] rfl rfl (World.news_of_block (cs := #[.int .u64 x]) (t := 40) (fr := (0, 0)) (heap_alloc_new _ _)) (by simp [Value.oneCell']) (by omega) (by unfold maxLen; omega) (by omega) (by simp; omega) _ rfl ?_; intro gg capx w2 hown2 hgrow hat hlt2)
              go_roundw
              case rel =>
                refine ⟨j + 1, _, by omega, by go_num, rfl, ?_⟩
                rw [HN.out, ← List.append_assoc, HD.out]
                refine HEw.out w2 _ _ (grown_trans (grown_below _ (below_alloc _ _)) hgrow) ?_
                rw [List.length_append, uvs_app, HDl.out]
                exact hown2
              case measure => simp [intOf]; omega
            · obtain rfl : j = 6 := by omega
              clear hE
              go_wp2
              go_roundw
              case rel => exact ⟨p + 1, v, by omega, by go_num, rfl, by rw [show (p + 1) * 6 = p * 6 + 6 by omega]; exact HE.out⟩
              case measure => simp [intOf]; omega
        · obtain rfl : p = 8 := by omega
          clear hE
          go_wp2
          go_ret
          exact ⟨v, rfl, HE.out.own, HE.out.bel⟩
end Fd
end Go.Proofs.YtnlhedpfhgoncabGreatDoor
namespace Go.Proofs.YtnlhedpfhgoncabGreatDoor
open Go.RowKit
namespace Ow
end Ow
namespace Fd
open Ow
theorem Fit.re {x : Fl} (h : Fit x) (n : Int) : Fit (x.re n) := ⟨h.k1, h.k2, h.i1, h.i2, h.o1, h.o2⟩
theorem Fit.at {x : Fl} (h : Fit x) {n : Int} (h1 : 0 ≤ n) (h2 : n ≤ 1048576) : Fit (x.at n) := ⟨h.k1, h.k2, h.i1, h.i2, h1, h2⟩
theorem FitS.zero : FitS FS.zero := fun p _ h => absurd rfl h
theorem FitS.setF {S : FS} (h : FitS S) {p : Nat} {x : Fl} (hx : x.refs ≠ 0 → Fit x) (t : Nat → Nat) : FitS ⟨(S.setF p x).f, t⟩ := by
  intro i hi hr
  by_cases e : i = p
  · subst e
    have e2 : (FS.mk (S.setF i x).f t).f i = x := FS.setF_same S i x
    rw [e2] at hr ⊢
    exact hx hr
  · have e2 : (FS.mk (S.setF p x).f t).f i = S.f i := FS.setF_other S p i x e
    rw [e2] at hr ⊢
    exact h i hi hr
theorem FitS.openT {S : FS} (h : FitS S) {n : Int} {x : Fl} (hx : Fit x) : FitS (openT S n x) := by
  unfold Go.Proofs.YtnlhedpfhgoncabGreatDoor.Fd.openT
  cases openOk S n with
  | false => exact h
  | true => exact h.setF (fun _ => hx.re 1) _
theorem FitS.name2 {S : FS} (h : FitS S) {to q : Nat} (hf : Fit (S.f (q - 1))) : FitS ((S.setT to q).addR (q - 1) 1) := h.setF (fun _ => hf.re _) _
theorem FitS.at {S : FS} (h : FitS S) (hI : Inv S) {k : Nat} (hk : k < 48) (hn : S.t k ≠ 0) : Fit (S.f (S.t k - 1)) := by
  have := hI.pos hk hn
  exact h _ this.1 (by omega)
theorem FitS.forkTo {S : FS} (h : FitS S) (hI : Inv S) {a b : Nat} (ha : a < 8) (hb : b < 8) : ∀ k, k ≤ 6 → FitS (forkTo S a b k)
  | 0, _ => h
  | k + 1, hk => by
    have ih := FitS.forkTo h hI ha hb k (by omega)
    have iI := hI.forkTo ha hb k (by omega)
    show FitS (forkStep (Go.Proofs.YtnlhedpfhgoncabGreatDoor.Fd.forkTo S a b k) a b k)
    unfold forkStep
    split
    · rename_i q
      exact ih.name2 (ih.at iI (by omega) q.2)
    · exact ih
theorem FitS.forkT {S : FS} (h : FitS S) (hI : Inv S) (n c : Int) : FitS (forkT S n c) := by
  unfold Go.Proofs.YtnlhedpfhgoncabGreatDoor.Fd.forkT
  cases ho : (isP n && isP c) with
  | false => exact h
  | true =>
    simp only [Bool.and_eq_true] at ho
    obtain ⟨m, rfl, hm⟩ := isP_nat ho.1
    obtain ⟨d, rfl, hd⟩ := isP_nat ho.2
    rw [show ((m : Int) + 1 - 1).toNat = m by omega, show ((d : Int) + 1 - 1).toNat = d by omega]
    exact h.forkTo hI hm hd 6 (by omega)
end Fd
end Go.Proofs.YtnlhedpfhgoncabGreatDoor
