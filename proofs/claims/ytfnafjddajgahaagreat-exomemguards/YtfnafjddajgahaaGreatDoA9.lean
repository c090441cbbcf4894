/- januslaw09.do: a deed with both kernels answers true, and both tell the same behind it. -/
import Derived.Test.YtfnafjddajgahaaGreatRkE
import Derived.Test.YtfnafjddajgahaaGreatDeed9
namespace Go.Proofs.YtfnafjddajgahaaGreat
open Go.RowKit Ca
set_option linter.unusedVariables false

/-- All of a kernel lies under R. -/
structure KLow (K : Nat) (Y : Lay) (R : Nat) : Prop where
  k0 : K < R
  k1 : Y.mb < R
  k2 : Y.g < R
  k3 : Y.cb < R
  k4 : ∀ e, e < 12 → Y.tb e < R
  k5 : ∀ e, e < 12 → Y.mp e < R
theorem KerAt.low {w : World} {K : Nat} {Y : Lay} {n : Nat} {vs : List Int} {T : Tab} {F : Pages} (h : KerAt w K Y n vs T F) : KLow K Y w.heap.size :=
  ⟨h.head.lt, lt_of_heap h.mem.head, lt_of_heap h.mem.row, h.caps.lt, fun e he => (h.tbl e he).lt, fun e he => (h.tbl e he).mlt⟩
theorem KerAt.keepR {w w' : World} {K : Nat} {Y : Lay} {n : Nat} {vs : List Int} {T : Tab} {F : Pages} {R : Nat} {P : Nat → Prop} (h : KerAt w K Y n vs T F) (hl : KLow K Y R) (hu : UpdP P w w') (hP : ∀ b, P b → R ≤ b) : KerAt w' K Y n vs T F :=
  ⟨h.head.keep (hu.block _ h.head.lt (fun e => by have := hP _ e; have := hl.k0; omega)), h.mem.keep (hu.block _ (lt_of_heap h.mem.head) (fun e => by have := hP _ e; have := hl.k1; omega)) (hu.block _ (lt_of_heap h.mem.row) (fun e => by have := hP _ e; have := hl.k2; omega)), h.caps.keep (hu.block _ h.caps.lt (fun e => by have := hP _ e; have := hl.k3; omega)), fun e he => (h.tbl e he).keep (hu.block _ (h.tbl e he).lt (fun x => by have := hP _ x; have := hl.k4 e he; omega)) (hu.block _ (h.tbl e he).mlt (fun x => by have := hP _ x; have := hl.k5 e he; omega)), h.inj, h.inv, h.n1, h.n2, h.pg⟩

/-- Both kernels, and that they tell the same. -/
structure Duo (w : World) (K : Nat) (Y : Lay) (X : Nat) (Q : RLay) (n R : Nat) (vs : List Int) (T : Tab) (F : Pages) (L : List Ce) (last : Int) : Prop where
  ker : KerAt w K Y n vs T F
  ref : RkAt w X Q n vs L last F
  rel : Rel T L last
  pos : 0 ≤ last
  klow : KLow K Y R
  rlow : RLow Q n R
/-- What calls of both write. -/
def BFoot (Y : Lay) (X : Nat) (Q : RLay) (n : Nat) (b : Nat) : Prop := Foot Y b ∨ RFoot X Q n b
/-- What a deed with both leaves. -/
def DoneD (w w' : World) (K : Nat) (Y : Lay) (X : Nat) (Q : RLay) (n R : Nat) (vs : List Int) (T : Tab) (F : Pages) (L : List Ce) (last : Int) : Prop :=
  ∃ L' last', Duo w' K Y X Q n R vs T F L' last' ∧ L'.length ≤ L.length + 1 ∧ last' ≤ last + 1 ∧ UpdP (BFoot Y X Q n) w w'

section
variable {w W w1 w2 : World} {K X n R : Nat} {Y : Lay} {Q : RLay} {vs vs' : List Int} {T T' : Tab} {F F' : Pages} {L : List Ce} {last : Int}
theorem Duo.below (h : Duo w K Y X Q n R vs T F L last) (hb : Below w.heap.size w W) : Duo W K Y X Q n R vs T F L last :=
  ⟨h.ker.below hb, h.ref.below hb, h.rel, h.pos, h.klow, h.rlow⟩
theorem Duo.kf (h : Duo w K Y X Q n R vs T F L last) : ∀ b, Foot Y b → b < R := by
  rintro b (e | e | ⟨i, hi, e⟩)
  · rw [e]; exact h.klow.k2
  · rw [e]; exact h.klow.k3
  · rw [e]; exact h.klow.k5 i hi
theorem Duo.rf (h : Duo w K Y X Q n R vs T F L last) : ∀ b, RFoot X Q n b → R ≤ b := by
  have h1 := h.rlow.l1
  have h2 := h.ref.lo1
  have h3 := h.ref.cX
  rintro b (e | e | ⟨i, hi, e⟩)
  · omega
  · omega
  · rw [e]; exact h.rlow.l3 i hi
theorem Duo.Rw (h : Duo w K Y X Q n R vs T F L last) : R ≤ w.heap.size := by
  have h1 := h.rlow.l1
  have h2 := lt_of_heap h.ref.mem.head
  omega
theorem Duo.apart (h : Duo w K Y X Q n R vs T F L last) : ¬ Foot Y w.heap.size ∧ ¬ RFoot X Q n w.heap.size := by
  refine ⟨fun e => by have := h.kf _ e; have := h.Rw; omega, ?_⟩
  have h1 := h.ref.tbl.1.lt
  have h2 := h.ref.cX
  rintro (e | e | ⟨i, hi, e⟩)
  · omega
  · omega
  · have := lt_of_heap (h.ref.mem.row i hi)
    omega
theorem Duo.lnk (h : Duo w K Y X Q n R vs T F L last) (hl : L.length ≤ 850) (ht : last ≤ 850) : Lnk T L last n F :=
  ⟨h.rel, h.ker.inv, h.ker.n1, h.ker.n2, h.ker.pg, h.pos, hl, ht⟩
theorem Duo.other (h : Duo W K Y X Q n R vs T F L last) (hu : UpdP (Foot Y) W w1) : RkAt w1 X Q n vs L last F := h.ref.keepK h.rlow hu h.kf
theorem Duo.finish (h : Duo w K Y X Q n R vs T F L last) (hb : Below w.heap.size w W) (hK : KerAt w1 K Y n vs' T' F') (hu1 : UpdP (Foot Y) W w1) (hG : Grew w2 X Q n vs' L last F' T') (hu2 : UpdP (RFoot X Q n) w1 w2) : DoneD w w2 K Y X Q n R vs' T' F' L last := by
  obtain ⟨L', last', hR, hr, hp, h1, h2⟩ := hG
  exact ⟨L', last', ⟨hK.keepR h.klow hu2 h.rf, hR, hr, hp, h.klow, h.rlow⟩, h1, h2, ((UpdP.of_below hb).trans (hu1.mono (fun b hb => Or.inl hb))).trans (hu2.mono (fun b hb => Or.inr hb))⟩
theorem RkAt.grew (h : RkAt w2 X Q n vs L last F) (hr : Rel T L last) (hp : 0 ≤ last) : Grew w2 X Q n vs L last F T := ⟨L, last, h, hr, hp, by omega, by omega⟩
theorem dd_keep {P : Nat → Prop} {B : Nat} {d : Dd} {t : TypeId} (hu : UpdP P W w1) (hbox : W.heap[B]? = some (.cells (ddRow d) t)) (hB : ¬ P B) : w1.heap[B]? = some (.cells (ddRow d) t) := (hu.block B (lt_of_heap hbox) hB).trans hbox

set_option maxRecDepth 100000 in
set_option maxHeartbeats 4000000 in
theorem do_0 (h : Duo w K Y X Q n R vs T F L last) (hl : L.length ≤ 800) (ht : last ≤ 800) (e s q r : Int) (b : Bool) (a v : Int) :
    Calls Tryz.prog 9 #[ptr K, ptr X, .agg #[.int .i64 0, .int .i64 e, .int .i64 s, .int .i64 q, .int .i64 r, .bool b, .int .u64 a, .int .u64 v]] w fun x w' => x = .returned (.bool true) ∧ DoneD w w' K Y X Q n R (allocV T n e vs) (allocT T n e) F L last := by
  obtain ⟨a1, a2⟩ := h.apart
  obtain ⟨W, hW⟩ : ∃ W, W = w.alloc (.cells #[.int .i64 0, .int .i64 e, .int .i64 s, .int .i64 q, .int .i64 r, .bool b, .int .u64 a, .int .u64 v] 30) := ⟨_, rfl⟩
  have hbW : Below w.heap.size w W := by rw [hW]; exact below_alloc _ _
  have hbox : W.heap[w.heap.size]? = some (.cells (ddRow ⟨0, e, s, q, r, b, a, v⟩) 30) := by rw [hW]; exact heap_alloc_new _ _
  have hd := h.below hbW
  have hlk := hd.lnk (by omega) (by omega)
  have hop := kalloc_at hd.ker e
  have hrf : ∀ V, RkAt V X Q n vs L last F → _ := fun V hV => rkalloc_at hV hlk e
  have HH : Hid _ := h
  have HD : Hid _ := hd
  have HB : Hid _ := hbW
  have HX : Hid _ := hbox
  clear hbW hbox hd hlk h hl ht
  go_enter Tryz.func9, Tryz.ntmps9
  go_wp2_with fail
  rw [← hW]
  clear hW
  refine hop.mono ?_
  rintro x w1 ⟨rfl, hK1, hu1⟩
  have hbox1 := dd_keep hu1 HX.out a1
  have hR1 := HD.out.other hu1
  have HK1 : Hid _ := hK1
  have HU1 : Hid _ := hu1
  have HX1 : Hid _ := hbox1
  have HR1 : Hid _ := hR1
  obtain ⟨⟨g0, g1, g2, g3⟩, g4, g5, g6, g7⟩ := ddCells hbox1
  dsimp only at g0 g1 g2 g3 g4 g5 g6 g7
  have hrf1 := hrf w1 hR1
  clear hK1 hu1 hbox1 hR1 hop hrf
  go_wp2_with fail
  refine hrf1.mono ?_
  rintro x w2 ⟨rfl, hG2, hu2⟩
  have HF : Hid (DoneD w w2 _ Y X Q n R (allocV T n e vs) (allocT T n e) F L last) := HH.out.finish HB.out HK1.out HU1.out hG2 hu2
  clear hG2 hu2 hrf1
  go_wp2_with fail
  go_ret
  exact ⟨rfl, HF.out⟩

set_option maxRecDepth 100000 in
set_option maxHeartbeats 4000000 in
theorem do_6 (h : Duo w K Y X Q n R vs T F L last) (hl : L.length ≤ 800) (ht : last ≤ 800) (e s q r : Int) (b : Bool) (a v : Int) (ha : 0 ≤ a) :
    Calls Tryz.prog 9 #[ptr K, ptr X, .agg #[.int .i64 6, .int .i64 e, .int .i64 s, .int .i64 q, .int .i64 r, .bool b, .int .u64 a, .int .u64 v]] w fun x w' => x = .returned (.bool true) ∧ DoneD w w' K Y X Q n R vs T F L last := by
  obtain ⟨a1, a2⟩ := h.apart
  obtain ⟨W, hW⟩ : ∃ W, W = w.alloc (.cells #[.int .i64 6, .int .i64 e, .int .i64 s, .int .i64 q, .int .i64 r, .bool b, .int .u64 a, .int .u64 v] 30) := ⟨_, rfl⟩
  have hbW : Below w.heap.size w W := by rw [hW]; exact below_alloc _ _
  have hbox : W.heap[w.heap.size]? = some (.cells (ddRow ⟨6, e, s, q, r, b, a, v⟩) 30) := by rw [hW]; exact heap_alloc_new _ _
  have hd := h.below hbW
  have hlk := hd.lnk (by omega) (by omega)
  have hop := kload_at hd.ker e a ha
  have hrf : ∀ V, RkAt V X Q n vs L last F → _ := fun V hV => rkload_at hV e a ha
  have HH : Hid _ := h
  have HD : Hid _ := hd
  have HB : Hid _ := hbW
  have HX : Hid _ := hbox
  clear hbW hbox hd hlk h hl ht
  go_enter Tryz.func9, Tryz.ntmps9
  go_wp2_with fail
  rw [← hW]
  clear hW
  refine hop.mono ?_
  rintro x w1 ⟨rfl, hb1⟩
  have hu1 : UpdP (Foot Y) W w1 := UpdP.of_below hb1
  have hK1 := HD.out.ker.below hb1
  have hbox1 := dd_keep hu1 HX.out a1
  have hR1 := HD.out.other hu1
  have HK1 : Hid _ := hK1
  have HU1 : Hid _ := hu1
  have HX1 : Hid _ := hbox1
  have HR1 : Hid _ := hR1
  obtain ⟨⟨g0, g1, g2, g3⟩, g4, g5, g6, g7⟩ := ddCells hbox1
  dsimp only at g0 g1 g2 g3 g4 g5 g6 g7
  have hrf1 := hrf w1 hR1
  clear hK1 hu1 hbox1 hR1 hop hrf
  go_wp2_with fail
  refine hrf1.mono ?_
  rintro x w2 ⟨rfl, hb2⟩
  have hu2 : UpdP (RFoot X Q n) w1 w2 := UpdP.of_below hb2
  have hG2 := RkAt.grew (HR1.out.below hb2) HH.out.rel HH.out.pos
  have HF : Hid (DoneD w w2 _ Y X Q n R vs T F L last) := HH.out.finish HB.out HK1.out HU1.out hG2 hu2
  clear hG2 hu2 hrf1
  go_wp2_with fail
  go_ret
  exact ⟨rfl, HF.out⟩

set_option maxRecDepth 100000 in
set_option maxHeartbeats 4000000 in
theorem do_9 (h : Duo w K Y X Q n R vs T F L last) (hl : L.length ≤ 800) (ht : last ≤ 800) (e s q r : Int) (b : Bool) (a v : Int) :
    Calls Tryz.prog 9 #[ptr K, ptr X, .agg #[.int .i64 9, .int .i64 e, .int .i64 s, .int .i64 q, .int .i64 r, .bool b, .int .u64 a, .int .u64 v]] w fun x w' => x = .returned (.bool true) ∧ DoneD w w' K Y X Q n R vs T F L last := by
  obtain ⟨a1, a2⟩ := h.apart
  obtain ⟨W, hW⟩ : ∃ W, W = w.alloc (.cells #[.int .i64 9, .int .i64 e, .int .i64 s, .int .i64 q, .int .i64 r, .bool b, .int .u64 a, .int .u64 v] 30) := ⟨_, rfl⟩
  have hbW : Below w.heap.size w W := by rw [hW]; exact below_alloc _ _
  have hbox : W.heap[w.heap.size]? = some (.cells (ddRow ⟨9, e, s, q, r, b, a, v⟩) 30) := by rw [hW]; exact heap_alloc_new _ _
  have hd := h.below hbW
  have hlk := hd.lnk (by omega) (by omega)
  have hop := kread_at hd.ker e s r
  have hrf : ∀ V, RkAt V X Q n vs L last F → _ := fun V hV => rkread_at hV hlk e s r
  have HH : Hid _ := h
  have HD : Hid _ := hd
  have HB : Hid _ := hbW
  have HX : Hid _ := hbox
  clear hbW hbox hd hlk h hl ht
  go_enter Tryz.func9, Tryz.ntmps9
  go_wp2_with fail
  rw [← hW]
  clear hW
  refine hop.mono ?_
  rintro x w1 ⟨rfl, hb1⟩
  have hu1 : UpdP (Foot Y) W w1 := UpdP.of_below hb1
  have hK1 := HD.out.ker.below hb1
  have hbox1 := dd_keep hu1 HX.out a1
  have hR1 := HD.out.other hu1
  have HK1 : Hid _ := hK1
  have HU1 : Hid _ := hu1
  have HX1 : Hid _ := hbox1
  have HR1 : Hid _ := hR1
  obtain ⟨⟨g0, g1, g2, g3⟩, g4, g5, g6, g7⟩ := ddCells hbox1
  dsimp only at g0 g1 g2 g3 g4 g5 g6 g7
  have hrf1 := hrf w1 hR1
  clear hK1 hu1 hbox1 hR1 hop hrf
  go_wp2_with fail
  refine hrf1.mono ?_
  rintro x w2 ⟨rfl, hb2⟩
  have hu2 : UpdP (RFoot X Q n) w1 w2 := UpdP.of_below hb2
  have hG2 := RkAt.grew (HR1.out.below hb2) HH.out.rel HH.out.pos
  have HF : Hid (DoneD w w2 _ Y X Q n R vs T F L last) := HH.out.finish HB.out HK1.out HU1.out hG2 hu2
  clear hG2 hu2 hrf1
  go_wp2_with fail
  go_ret
  exact ⟨rfl, HF.out⟩

set_option maxRecDepth 100000 in
set_option maxHeartbeats 4000000 in
theorem do_gone (h : Duo w K Y X Q n R vs T F L last) (hl : L.length ≤ 800) (ht : last ≤ 800) (k e s q r : Int) (b : Bool) (a v : Int) (hk : k < 0 ∨ 10 < k) :
    Calls Tryz.prog 9 #[ptr K, ptr X, .agg #[.int .i64 k, .int .i64 e, .int .i64 s, .int .i64 q, .int .i64 r, .bool b, .int .u64 a, .int .u64 v]] w fun x w' => x = .returned (.bool true) ∧ DoneD w w' K Y X Q n R vs (goneT T e 64) (tidyF (goneT T e 64) F) L last := by
  obtain ⟨a1, a2⟩ := h.apart
  obtain ⟨W, hW⟩ : ∃ W, W = w.alloc (.cells #[.int .i64 k, .int .i64 e, .int .i64 s, .int .i64 q, .int .i64 r, .bool b, .int .u64 a, .int .u64 v] 30) := ⟨_, rfl⟩
  have hbW : Below w.heap.size w W := by rw [hW]; exact below_alloc _ _
  have hbox : W.heap[w.heap.size]? = some (.cells (ddRow ⟨k, e, s, q, r, b, a, v⟩) 30) := by rw [hW]; exact heap_alloc_new _ _
  have hd := h.below hbW
  have hlk := hd.lnk (by omega) (by omega)
  have hop := kgone_at hd.ker e
  have hrf : ∀ V, RkAt V X Q n vs L last F → _ := fun V hV => rkgone_at hV hlk e
  have HH : Hid _ := h
  have HD : Hid _ := hd
  have HB : Hid _ := hbW
  have HX : Hid _ := hbox
  have f0 : (k == 0) = false := beq_eq_false_iff_ne.2 (by omega)
  have f1 : (k == 1) = false := beq_eq_false_iff_ne.2 (by omega)
  have f2 : (k == 2) = false := beq_eq_false_iff_ne.2 (by omega)
  have f3 : (k == 3) = false := beq_eq_false_iff_ne.2 (by omega)
  have f4 : (k == 4) = false := beq_eq_false_iff_ne.2 (by omega)
  have f5 : (k == 5) = false := beq_eq_false_iff_ne.2 (by omega)
  have f6 : (k == 6) = false := beq_eq_false_iff_ne.2 (by omega)
  have f7 : (k == 7) = false := beq_eq_false_iff_ne.2 (by omega)
  have f8 : (k == 8) = false := beq_eq_false_iff_ne.2 (by omega)
  have f9 : (k == 9) = false := beq_eq_false_iff_ne.2 (by omega)
  have f10 : (k == 10) = false := beq_eq_false_iff_ne.2 (by omega)
  clear hk
  clear hbW hbox hd hlk h hl ht
  go_enter Tryz.func9, Tryz.ntmps9
  go_wp2_with fail
  rw [← hW]
  clear hW
  refine hop.mono ?_
  rintro x w1 ⟨rfl, hK1, hu1⟩
  have hbox1 := dd_keep hu1 HX.out a1
  have hR1 := HD.out.other hu1
  have HK1 : Hid _ := hK1
  have HU1 : Hid _ := hu1
  have HX1 : Hid _ := hbox1
  have HR1 : Hid _ := hR1
  obtain ⟨⟨g0, g1, g2, g3⟩, g4, g5, g6, g7⟩ := ddCells hbox1
  dsimp only at g0 g1 g2 g3 g4 g5 g6 g7
  have hrf1 := hrf w1 hR1
  clear hK1 hu1 hbox1 hR1 hop hrf
  go_wp2_with fail
  refine hrf1.mono ?_
  rintro x w2 ⟨rfl, hG2, hu2⟩
  have HF : Hid (DoneD w w2 _ Y X Q n R vs (goneT T e 64) (tidyF (goneT T e 64) F) L last) := HH.out.finish HB.out HK1.out HU1.out hG2 hu2
  clear hG2 hu2 hrf1
  go_wp2_with fail
  go_ret
  exact ⟨rfl, HF.out⟩
end
end Go.Proofs.YtfnafjddajgahaaGreat
