import Derived.Test.YtbhpafgoofkkmaaGreatDoorExAll
import Derived.Test.YtbhpafgoofkkmaaGreatDoorRefCb
import Derived.Test.YtbhpafgoofkkmaaGreatDoorRefT9
import Derived.Test.YtbhpafgoofkkmaaGreatDoorRefMem
set_option linter.all false
namespace Go.Proofs.YtbhpafgoofkkmaaGreatDoor
open Go.RowKit Ca
namespace Ex
theorem hit_frame {n : Nat} {x : Cp} (h : OkC n x) (i : Int) : hitB x 1 i 0 = (x.id == i) := by
 obtain ⟨h1, h2, h3, h4, h5, h6⟩ := h
 unfold hitB coversB
 rw [among0 _ ⟨by omega, h6⟩, h1, h4]
 have e : (decide (x.id ≤ i) && decide (i - x.id < 1)) = (x.id == i) := by
  by_cases h : x.id = i
  ·subst h; simp
  ·have : (x.id == i) = false := by simpa using h
   rw [this]
   simp
   omega
 simp [e]
theorem hold_cnt {T : Tab} {n : Nat} (h : KInv T n) (i : Int) : (holdTo T 1 i 12).length = 0 ↔ cnt T 768 i = 0 := by
 rw [cnt_zero]
 unfold holdTo
 rw [List.length_map, List.length_eq_zero_iff, List.filter_eq_nil_iff]
 constructor
 ·intro hn j hj hi he
  have h1 := hn (j / 64) (by simp; omega)
  apply h1
  refine hasN_hit (s := j % 64) (by omega) ?_
  rw [show j / 64 * 64 + j % 64 = j from by omega, hit_frame (h.ok hj hi)]
  simpa using he
 ·intro hn m hm hh
  rw [List.mem_range] at hm
  have : hasN T m 1 i 0 = false := hasN_miss (fun s hs => by
    rcases h (m * 64 + s) (by omega) with e | e
    · rw [e]; exact hit_no _ _ _
    · rw [hit_frame e]
      have := hn (m * 64 + s) (by omega) e.is
      simpa using this)
  rw [this] at hh
  cases hh
theorem rel_hold {T : Tab} {L : List Ce} {last : Int} {n : Nat} (h : Rel T L last) (hk : KInv T n) (i : Int) : (holdL 1 i L).length = 0 ↔ cnt T 768 i = 0 := by
 rw [← h.hold]
 exact hold_cnt hk i
structure Lnk (T : Tab) (L : List Ce) (last : Int) (n : Nat) (F : Pages) : Prop where
 rel : Rel T L last
 inv : KInv T n
 n1 : 1 ≤ n
 n2 : n ≤ 1024
 pg : ∀ e, e < 12 → ∀ p x, F e p = some x → x.1 < n
 pos : 0 ≤ last
 len : L.length ≤ 850
 top : last ≤ 850
theorem Lnk.rsanes {T : Tab} {L : List Ce} {last : Int} {n : Nat} {F : Pages} (h : Lnk T L last n F) : RSanes L := h.rel.rsanes
theorem and_among : ((List.range 8).all fun q => [1, 2, 3].all fun r => (bits .and .i64 (q : Nat) (r : Nat) == (r : Nat)) == among (r : Nat) (q : Nat)) = true := by decide +kernel
theorem and_is {q : Int} (h : 0 ≤ q ∧ q ≤ 7) {r : Int} (hr : r = 1 ∨ r = 2 ∨ r = 3) : (bits .and .i64 q r == r) = among r q := by
 have h1 := and_among
 rw [List.all_eq_true] at h1
 have h2 := h1 q.toNat (by simp; omega)
 rw [List.all_eq_true] at h2
 have hq : ((q.toNat : Nat) : Int) = q := by omega
 rcases hr with rfl | rfl | rfl
 ·have := h2 1 (by simp)
  rw [hq] at this
  simpa using this
 ·have := h2 2 (by simp)
  rw [hq] at this
  simpa using this
 ·have := h2 3 (by simp)
  rw [hq] at this
  simpa using this
end Ex
end Go.Proofs.YtbhpafgoofkkmaaGreatDoor
namespace Go.Proofs.YtbhpafgoofkkmaaGreatDoor
open Go.RowKit Ca
namespace Ex
structure RLay where
 bx : Nat
 gx : Nat
 cap : Nat
 rs : List Nat
 c : Nat
 M : Nat
structure RkAt (w : World) (X : Nat) (Q : RLay) (n : Nat) (vs : List Int) (L : List Ce) (last : Int) (F : Pages) : Prop where
 tbl : RTs w X Q.bx Q.c F
 mem : Me.RefAt w Q.bx Q.gx Q.cap n Q.rs vs
 caps : ∃ sv, Ca.RefAt Q.M w Q.c sv L last
 lo1 : Q.bx < Q.c
 lo2 : Q.gx < Q.c
 lo3 : ∀ i, i < n → Q.rs.getD i 0 < Q.c
 cX : Q.c < X
 XM : X < Q.M
 MS : Q.M ≤ w.heap.size
def RFoot (X : Nat) (Q : RLay) (n : Nat) (b : Nat) : Prop := b = X ∨ b = Q.c ∨ Me.Rows? n Q.rs b
structure RLow (Q : RLay) (n R : Nat) : Prop where
 l1 : R ≤ Q.bx
 l2 : R ≤ Q.gx
 l3 : ∀ i, i < n → R ≤ Q.rs.getD i 0
theorem caps_keepP {M : Nat} {w w' : World} {c : Nat} {sv : Value} {L : List Ce} {last : Int} {P : Nat → Prop} (h : Ca.RefAt M w c sv L last) (hu : UpdP P w w') (hc : ¬ P c) (hM : ∀ b, P b → b < M) : Ca.RefAt M w' c sv L last :=
 ⟨(hu.block _ h.lt hc).trans h.head, Ca.ownsRow_at h.own (fun g hg => hu.block g (h.own.lt g hg).2 (fun e => by have := hM g e; have := Ca.ownsRow_low h.own g hg; omega)), h.nil⟩
section
variable {w w' : World} {X : Nat} {Q : RLay} {n : Nat} {vs : List Int} {L : List Ce} {last : Int} {F : Pages}
theorem RkAt.below (h : RkAt w X Q n vs L last F) (hb : Below w.heap.size w w') : RkAt w' X Q n vs L last F := by
 obtain ⟨sv, hc⟩ := h.caps
 exact ⟨⟨h.tbl.1.below hb, h.tbl.2⟩, h.mem.below hb, ⟨sv, hc.below hb⟩, h.lo1, h.lo2, h.lo3, h.cX, h.XM, Nat.le_trans h.MS hb.size⟩
theorem RkAt.updM {vs' : List Int} (h : RkAt w X Q n vs L last F) (hm : Me.RefAt w' Q.bx Q.gx Q.cap n Q.rs vs') (hu : UpdP (Me.Rows? n Q.rs) w w') : RkAt w' X Q n vs' L last F := by
 obtain ⟨sv, hc⟩ := h.caps
 have h1 := h.cX
 have h2 := h.XM
 refine ⟨⟨h.tbl.1.keep (hu.block _ h.tbl.1.lt ?_), h.tbl.2⟩, hm, ⟨sv, caps_keepP hc hu ?_ ?_⟩, h.lo1, h.lo2, h.lo3, h.cX, h.XM, Nat.le_trans h.MS hu.size⟩
 ·rintro ⟨i, hi, e⟩
  have := h.lo3 i hi
  omega
 ·rintro ⟨i, hi, e⟩
  have := h.lo3 i hi
  omega
 ·rintro b ⟨i, hi, e⟩
  have := h.lo3 i hi
  omega
theorem RkAt.updC {sv' : Value} {L' : List Ce} {last' : Int} (h : RkAt w X Q n vs L last F) (hc : Ca.RefAt Q.M w' Q.c sv' L' last') (hu : Upd Q.c w w') : RkAt w' X Q n vs L' last' F := by
 have h1 := h.cX
 have h2 := h.lo1
 have h3 := h.lo2
 exact ⟨⟨h.tbl.1.keep (hu.block _ h.tbl.1.lt (by omega)), h.tbl.2⟩, h.mem.keep (hu.block _ (lt_of_heap h.mem.head) (by omega)) (hu.block _ h.mem.tablt (by omega)) (fun i hi => hu.block _ (lt_of_heap (h.mem.row i hi)) (by have := h.lo3 i hi; omega)), ⟨sv', hc⟩, h.lo1, h.lo2, h.lo3, h.cX, h.XM, Nat.le_trans h.MS hu.size⟩
theorem RkAt.updT {F' : Pages} (h : RkAt w X Q n vs L last F) (ht : RTs w' X Q.bx Q.c F') (hu : Upd X w w') : RkAt w' X Q n vs L last F' := by
 obtain ⟨sv, hc⟩ := h.caps
 have h1 := h.cX
 have h2 := h.lo1
 have h3 := h.lo2
 have h4 := h.XM
 exact ⟨ht, h.mem.keep (hu.block _ (lt_of_heap h.mem.head) (by omega)) (hu.block _ h.mem.tablt (by omega)) (fun i hi => hu.block _ (lt_of_heap (h.mem.row i hi)) (by have := h.lo3 i hi; omega)), ⟨sv, hc.keepU hu (by omega) (by omega)⟩, h.lo1, h.lo2, h.lo3, h.cX, h.XM, Nat.le_trans h.MS hu.size⟩
theorem RkAt.same {F' : Pages} (h : RkAt w X Q n vs L last F) (hF : ∀ e, e < 12 → F e = F' e) : RkAt w X Q n vs L last F' :=
 ⟨⟨h.tbl.1.same (fun e he => by show rrow (F e) = rrow (F' e); rw [hF e he]), fun e he => by rw [← hF e he]; exact h.tbl.2 e he⟩, h.mem, h.caps, h.lo1, h.lo2, h.lo3, h.cX, h.XM, h.MS⟩
theorem RkAt.x0 (h : RkAt w X Q n vs L last F) : w.cell? ⟨X, 0, none⟩ = some (ptr Q.bx) := h.tbl.1.c0
theorem RkAt.x1 (h : RkAt w X Q n vs L last F) : w.cell? ⟨X, 1, none⟩ = some (ptr Q.c) := h.tbl.1.c1
set_option maxHeartbeats 1000000 in
theorem rkcap_at {T : Tab} (h : RkAt w X Q n vs L last F) (hk : Lnk T L last n F) (e s r : Int) (hr : r = 1 ∨ r = 2 ∨ r = 3) :
  Calls Tryz.prog 152 #[ptr X, .int .i64 e, .int .i64 s, .int .i64 r] w fun x w' => x = .returned (.tuple #[.int .i64 (getT T e s).id, .bool (frm T e s r).isSome]) ∧ Below w.heap.size w w' := by
 obtain ⟨sv, hC⟩ := h.caps
 have hg := rget_at Q.M Q.c sv L last e s w hC (by have := hk.len; omega)
 obtain ⟨q1, q2⟩ := hk.rel.get e s
 rw [← q1, ← q2] at hg
 have hc := h.x1
 have HF : Hid (frm T e s r = if ((getT T e s).is && among r (getT T e s).rights) = true then some (getT T e s).id else none) := rfl
 have HO : Hid ((getT T e s).is = true → OkC n (getT T e s)) := fun hi => hk.inv.get hi
 clear h hC q1 q2
 generalize frm T e s r = R at *
 generalize getT T e s = x at *
 obtain ⟨k, i, l, q⟩ := x
 cases hi : Cp.is ⟨k, i, l, q⟩ with
 | false =>
  rw [hi] at hg
  have HR : Hid (R = none) := by show _ = _; rw [HF.out, hi]; rfl
  clear HF HO hi
  dsimp only [cpRow] at *
  go_enter Tryz.func152, Tryz.ntmps152
  go_wp2_with (go_at_call 42; refine hg.mono ?_; rintro e w1 ⟨rfl, hb⟩)
  go_quiet (fail)
  go_wp2
  go_ret2
  exact ⟨by rw [HR.out]; rfl, below_drewN (hb.alloc hb.size _) _⟩
 | true =>
  rw [hi] at hg
  obtain ⟨_, _, _, _, o5, o6⟩ := HO.out hi
  have ha := and_is (q := q) ⟨by dsimp only at o5; omega, o6⟩ hr
  have HF2 : Hid (R = if among r q = true then some i else none) := by show _ = _; rw [HF.out, hi]; rfl
  clear HF HO hi o5 o6
  rw [← ha] at HF2
  clear ha
  dsimp only [cpRow] at *
  cases hbq : (bits .and .i64 q r == r) with
  | false =>
   have HR : Hid (R = none) := by show _ = _; rw [HF2.out, hbq]; rfl
   clear HF2
   go_enter Tryz.func152, Tryz.ntmps152
   go_wp2_with (go_at_call 42; refine hg.mono ?_; rintro e w1 ⟨rfl, hb⟩)
   go_quiet (fail)
   go_wp2
   go_ret2
   exact ⟨by rw [HR.out]; rfl, below_drewN (hb.alloc hb.size _) _⟩
  | true =>
   have HR : Hid (R = some i) := by show _ = _; rw [HF2.out, hbq]; rfl
   clear HF2
   go_enter Tryz.func152, Tryz.ntmps152
   go_wp2_with (go_at_call 42; refine hg.mono ?_; rintro e w1 ⟨rfl, hb⟩)
   go_quiet (fail)
   go_wp2
   go_ret2
   exact ⟨by rw [HR.out]; rfl, below_drewN (hb.alloc hb.size _) _⟩
end
def kz (a b : Nat) : Array Value := #[ptr a, ptr b] ++ (Array.range 144).map (fun i => if i % 12 < 8 ∧ i % 2 = 0 then .int .i64 0 else .bool false)
theorem kz_is (a b : Nat) : (Tryz.zeroCells57.setIfInBounds 0 (ptr a)).setIfInBounds 1 (ptr b) = kz a b := by kernel_rfl
theorem kz_row {W : World} {X a b : Nat} (h : W.heap[X]? = some (.cells (kz a b) 57)) : RTs W X a b (fun _ _ => none) := by
 refine ⟨⟨kz a b, h, by simp [kz], by unfold kz; rw [Array.getElem?_append_left (by simp)]; rfl, by unfold kz; rw [Array.getElem?_append_left (by simp)]; rfl, fun e he i hi => ?_⟩, fun e he k y hy => by cases hy⟩
 have hz : (kz a b)[2 + e * 12 + i]? = some (if i < 8 ∧ i % 2 = 0 then .int .i64 0 else .bool false) := by
  unfold kz
  rw [Array.getElem?_append_right (by simp; omega)]
  have e1 : 2 + e * 12 + i - (#[ptr a, ptr b] : Array Value).size = e * 12 + i := by simp; omega
  rw [e1, Array.getElem?_map, Array.getElem?_range, if_pos (by omega)]
  have e2 : (e * 12 + i) % 12 = i := by omega
  have e3 : (e * 12 + i) % 2 = i % 2 := by omega
  simp only [Option.map_some, e2, e3]
 rw [hz]
 match i, hi with
 | 0, _ => rfl
 | 1, _ => rfl
 | 2, _ => rfl
 | 3, _ => rfl
 | 4, _ => rfl
 | 5, _ => rfl
 | 6, _ => rfl
 | 7, _ => rfl
 | 8, _ => rfl
 | 9, _ => rfl
 | 10, _ => rfl
 | 11, _ => rfl
set_option maxRecDepth 100000 in
set_option maxHeartbeats 4000000 in
theorem rknew_at (n : Int) (w : World) (h1 : 1 ≤ n) (h2 : n ≤ 1024) :
  Calls Tryz.prog 56 #[.int .i64 n] w fun x w' => ∃ X Q, x = .returned (ptr X) ∧ RkAt w' X Q n.toNat (List.replicate (n.toNat * 32) 0) [] 0 (fun _ _ => none) ∧ Below w.heap.size w w' ∧ RLow Q n.toNat w.heap.size := by
 have hm := Me.rnew_at n w h1 h2
 have hn : 0 < n.toNat := by omega
 clear h1 h2
 have HN : Hid _ := hn
 clear hn
 go_enter Tryz.func56, Tryz.ntmps56
 go_wp2_with fail
 refine hm.mono ?_
 rintro x w1 ⟨rfl, ⟨v, rs, hM⟩, hb1⟩
 obtain ⟨gx, cap, hR, hg, hrs⟩ := hM.done HN.out
 have hbld : Hid _ := kz_is w.heap.size w1.heap.size
 have HKZ : Hid (∀ (W : World) (X : Nat), W.heap[X]? = some (.cells (kz w.heap.size w1.heap.size) 57) → RTs W X w.heap.size w1.heap.size (fun _ _ => none)) := fun W X h => kz_row h
 generalize kz w.heap.size w1.heap.size = kk at *
 have HR : Hid _ := hR
 have HB : Hid _ := hb1
 have HG : Hid _ := And.intro hg hrs
 clear hm hM hR hb1 hg hrs
 go_wp2
 go_ret
 rw [hbld.out]
 have hs := HB.out.size
 have a1 := Below.trans HB.out ((below_alloc w1 (.cells #[.slice none 0 0, .int .i64 0] 104)).mono hs)
 have hbb := below_alloc2 w1 (.cells #[.slice none 0 0, .int .i64 0] 104) (.cells kk 57)
 refine ⟨w1.heap.size + 1, ⟨w.heap.size, gx, cap, rs, w1.heap.size, w1.heap.size + 2⟩, rfl, ⟨HKZ.out _ _ ?_, HR.out.below hbb, ⟨.slice none 0 0, ?_, World.ownsRow_nil _ _ _ _, fun _ => rfl⟩, lt_of_heap HR.out.head, HR.out.tablt, fun i hi => lt_of_heap (HR.out.row i hi), by simp, by simp, by simp⟩, HB.out.trans (hbb.mono hs), ⟨Nat.le_refl _, Nat.le_of_lt HG.out.1, fun i hi => Nat.le_of_lt (HG.out.2 i hi)⟩⟩
 ·have := heap_alloc_new (w1.alloc (.cells #[.slice none 0 0, .int .i64 0] 104)) (.cells kk 57)
  rw [World.size_alloc] at this
  exact this
 ·exact (Below.heap_alloc _ _ _ (by simp)).trans (heap_alloc_new _ _)
end Ex
end Go.Proofs.YtbhpafgoofkkmaaGreatDoor
namespace Go.Proofs.YtbhpafgoofkkmaaGreatDoor
open Go.RowKit Ca
namespace Ex
section
variable {w w' : World} {X : Nat} {Q : RLay} {n : Nat} {vs : List Int} {L : List Ce} {last : Int} {F : Pages} {T : Tab}
theorem tidyUp_at (T : Tab) (F : Pages) (m : Nat) : tidyUp T F m m = F m := by
 unfold tidyUp
 rw [if_neg (by omega)]
set_option maxRecDepth 100000 in
set_option maxHeartbeats 8000000 in
theorem rktidy_at (h : RkAt w X Q n vs L last F) (hk : Lnk T L last n F) :
  Calls Tryz.prog 151 #[ptr X] w fun x w' => x = .returned (.tuple #[]) ∧ RkAt w' X Q n vs L last (tidyF T F) ∧ Upd X w w' := by
 have HL : Hid _ := hk
 have HI : Hid (RkAt w X Q n vs L last (tidyUp T F 0)) := by rw [tidyUp_zero]; exact h
 have HN : Hid _ := h.tbl.2
 clear h hk
 go_enter Tryz.func151, Tryz.ntmps151
 go_wp2
 go_loopw [2] (fun s wr => ∃ (m : Nat), m ≤ 12 ∧ s = .int .i64 m ∧ RkAt wr X Q n vs L last (tidyUp T F m) ∧ Upd X w wr) (fun s _ => 12 - (intOf s).toNat)
 case atStart => exact ⟨0, by omega, rfl, HI.out, Upd.refl _ _⟩
 case round =>
  clear HI
  obtain ⟨m, hm', rfl, hK, hU⟩ := hrel
  by_cases hm : m < 12
  ·have hn := HN.out m hm
   have H0 : Hid (RkAt wr X Q n vs L last (setF (tidyUp T F m) m (tidyTo T m (F m) 0))) := by
    rw [tidyTo_zero _ _ _ hn]
    have : setF (tidyUp T F m) m (F m) = tidyUp T F m := by
     have := setF_id (tidyUp T F m) m
     rwa [tidyUp_at] at this
    rw [this]
    exact hK
   have H4 : Hid (setF (tidyUp T F m) m (tidyTo T m (F m) 4) = tidyUp T F (m + 1)) := by
    show _ = _
    have := tidyUp_step T F m
    rw [tidyUp_at] at this
    rw [tidyTo_four _ _ _ hn, this]
   have H1 : Hid _ := hU
   have HNN : Hid _ := hn
   have i1 : decide ((m : Int) < 12) = true := decide_eq_true (by omega)
   have i12 : (m : Int) < 12 := by omega
   clear hK hU hn
   go_wp2
   go_loopw [3] (fun s wr => ∃ (k : Nat), k ≤ 4 ∧ s = .int .i64 k ∧ RkAt wr X Q n vs L last (setF (tidyUp T F m) m (tidyTo T m (F m) k)) ∧ Upd X w wr) (fun s _ => 4 - (intOf s).toNat)
   case atStart => exact ⟨0, by omega, rfl, H0.out, H1.out⟩
   case round =>
    clear H0 H1
    obtain ⟨k, hk', rfl, hK, hU⟩ := hrel
    by_cases hkk : k < 4
    ·have i2 : decide ((k : Int) < 4) = true := decide_eq_true (by omega)
     have ha := rat_at hK.tbl hm (k : Int)
     rw [setF_same, tidyTo_at] at ha
     have HK : Hid _ := hK
     have HU : Hid _ := hU
     have hl := hK.tbl.1.lt
     clear hK hU
     cases hf : F m (k : Int) with
     | none =>
      rw [hf] at ha
      have HM : Hid (tidyTo T m (F m) (k + 1) = tidyTo T m (F m) k) := tidyTo_keep (by unfold tidy1; rw [hf])
      clear hf
      simp only [Mu.pv, Option.getD_none, Option.isSome_none] at ha
      go_wp2_with fail
      refine ha.mono ?_
      rintro x w1 ⟨rfl, hb1⟩
      have hb2 : Below wr.heap.size wr (w1.alloc (.cells #[.int .i64 0, .bool false] 50)) := hb1.alloc hb1.size _
      have HK2 : Hid _ := HK.out.below hb2
      have HU2 : Hid _ := Upd.trans HU.out (Upd.of_below hb2)
      clear hb1 hb2 ha
      go_wp2
      go_roundw
      case rel => exact ⟨k + 1, by omega, by go_num, by rw [HM.out]; exact HK2.out, HU2.out⟩
      case measure => simp [intOf]; omega
     | some y =>
      rw [hf] at ha
      have y1 := HNN.out k y hf
      have y2 := HL.out.pg m hm k y hf
      have y3 := HL.out.n2
      have hI : I64 y.1 := ⟨by omega, by omega⟩
      have HY : Hid (holdB T m y = true → tidyTo T m (F m) (k + 1) = tidyTo T m (F m) k) := fun hh => tidyTo_keep (by unfold tidy1; rw [hf]; dsimp only; rw [if_pos hh])
      have HX : Hid (holdB T m y = false → tidyTo T m (F m) (k + 1) = Mu.unmapF (tidyTo T m (F m) k) k) := fun hh => tidyTo_lose (by unfold tidy1; rw [hf]; dsimp only; rw [if_neg (by rw [hh]; exact Bool.false_ne_true)])
      obtain ⟨f, b⟩ := y
      simp only [Mu.pv, Option.getD_some, Option.isSome_some] at ha
      clear hf y1 y2 y3
      cases b
      ·go_wp2_with fail
       refine ha.mono ?_
       rintro x w1 ⟨rfl, hb1⟩
       obtain ⟨V, hV⟩ : ∃ V, V = w1.alloc (.cells #[.int .i64 f, .bool false] 50) := ⟨_, rfl⟩
       have hbV : Below wr.heap.size wr V := by rw [hV]; exact hb1.alloc hb1.size _
       have hnew : V.heap[w1.heap.size]? = some (.cells #[.int .i64 f, .bool false] 50) := by rw [hV]; exact heap_alloc_new _ _
       have hbD : Below wr.heap.size wr V.drew := hbV.drew
       have c0 : V.drew.cell? ⟨w1.heap.size, 0, none⟩ = some (.int .i64 f) := by rw [cell_of_heap (w := V.drew) hnew]; rfl
       have hKD := HK.out.below hbD
       have c1 := hKD.x1
       obtain ⟨sv, hC⟩ := hKD.caps
       have hh := rhas_at Q.M Q.c sv L last m 1 f 1 V.drew hC (by have := HL.out.len; omega) HL.out.rsanes hI
       rw [← HL.out.rel.has] at hh
       have HB : Hid (holdB T m (f, false) = hasB T m 1 f 1) := rfl
       rw [HB.out] at HY HX
       have HKD : Hid _ := hKD
       have HUD : Hid (Upd X w V.drew) := Upd.trans HU.out (Upd.of_below hbD)
       clear hKD hC hnew hbV hbD hb1 HB ha
       generalize hasB T m 1 f 1 = R at *
       go_wp2_with fail
       rw [← hV]
       clear hV
       cases R
       ·skip
        refine wp_region_held_drew (S := fun w' => w'.cell? ⟨w1.heap.size, 0, none⟩ = some (.int .i64 f) ∧ w'.cell? ⟨X, 1, none⟩ = some (ptr Q.c)) (by kernel_rfl) ⟨c0, c1⟩ (fun hHeld => ?_)
        refine tkz [0, 1, 2, 3, 4, 5, 6, 7] ?_
        iterate 8
         refine tky (v := ?_) rfl (by kernel_rfl) (by kernel_rfl) (by kernel_rfl) (fun _ _ _ h => h) (Or.inl ⟨by kernel_rfl, ?_⟩) (by assumption) ?_
         rotate_left
         ·(intro w hSw; (try dsimp only at hSw); go_simp) <;> with_reducible rfl
         (try simp only [Act.put, lqa, lqb, lqc, lqd, lqe, lqf])
        refine tkw ?_
        refine wpAnyH_ready (rs := [8]) (by kernel_rfl) (by simp) ?_
        refine AllReadyH.cons rfl (fun K hK => ?_) AllReadyH.nil
        go_simp
        refine hh.mono ?_
        rintro x wz ⟨rfl, hbz⟩
        refine hK.out _ _ ⟨by rw [hbz.cell (cell_lt c0)]; exact c0, by rw [hbz.cell (cell_lt c1)]; exact c1⟩ (fun hHeld => ?_)
        clear hK K
        (try simp only [Act.put, lqa, lqb, lqc, lqd, lqe, lqf])
        refine tkz [9] ?_
        iterate 1
         refine tky (v := ?_) rfl (by kernel_rfl) (by kernel_rfl) (by kernel_rfl) (fun _ _ _ h => h) (Or.inl ⟨by kernel_rfl, ?_⟩) (by assumption) ?_
         rotate_left
         ·(intro w hSw; (try dsimp only at hSw); go_simp) <;> with_reducible rfl
         (try simp only [Act.put, lqa, lqb, lqc, lqd, lqe, lqf])
        refine tkw ?_
        refine wpAnyH_done (by kernel_rfl) ?_ _
        have HKZ : Hid _ := HKD.out.below hbz
        have HUZ : Hid (Upd X w wz) := Upd.trans HUD.out (Upd.of_below hbz)
        clear hbz hh c0 c1
        have HM : Hid _ := HX.out rfl
        have hun := runmap_at HKZ.out.tbl hm (k : Int)
        rw [setF_same] at hun
        generalize Mu.unmapV (tidyTo T m (F m) k) k = UV at *
        go_wp2_with fail
        refine hun.mono ?_
        rintro x w5 ⟨rfl, ht5, hu5⟩
        have HK5 : Hid (RkAt w5 X Q n vs L last (setF (tidyUp T F m) m (tidyTo T m (F m) (k + 1)))) := by
         have := HKZ.out.updT ht5 hu5
         rw [setF_setF, ← HM.out] at this
         exact this
        have HU5 : Hid _ := Upd.trans HUZ.out hu5
        clear ht5 hu5 hun
        go_wp2_with fail
        go_roundw
        case rel => exact ⟨k + 1, by omega, by go_num, HK5.out, HU5.out⟩
        case measure => simp [intOf]; omega
       ·skip
        refine wp_region_held_drew (S := fun w' => w'.cell? ⟨w1.heap.size, 0, none⟩ = some (.int .i64 f) ∧ w'.cell? ⟨X, 1, none⟩ = some (ptr Q.c)) (by kernel_rfl) ⟨c0, c1⟩ (fun hHeld => ?_)
        refine tkz [0, 1, 2, 3, 4, 5, 6, 7] ?_
        iterate 8
         refine tky (v := ?_) rfl (by kernel_rfl) (by kernel_rfl) (by kernel_rfl) (fun _ _ _ h => h) (Or.inl ⟨by kernel_rfl, ?_⟩) (by assumption) ?_
         rotate_left
         ·(intro w hSw; (try dsimp only at hSw); go_simp) <;> with_reducible rfl
         (try simp only [Act.put, lqa, lqb, lqc, lqd, lqe, lqf])
        refine tkw ?_
        refine wpAnyH_ready (rs := [8]) (by kernel_rfl) (by simp) ?_
        refine AllReadyH.cons rfl (fun K hK => ?_) AllReadyH.nil
        go_simp
        refine hh.mono ?_
        rintro x wz ⟨rfl, hbz⟩
        refine hK.out _ _ ⟨by rw [hbz.cell (cell_lt c0)]; exact c0, by rw [hbz.cell (cell_lt c1)]; exact c1⟩ (fun hHeld => ?_)
        clear hK K
        (try simp only [Act.put, lqa, lqb, lqc, lqd, lqe, lqf])
        refine tkz [9] ?_
        iterate 1
         refine tky (v := ?_) rfl (by kernel_rfl) (by kernel_rfl) (by kernel_rfl) (fun _ _ _ h => h) (Or.inl ⟨by kernel_rfl, ?_⟩) (by assumption) ?_
         rotate_left
         ·(intro w hSw; (try dsimp only at hSw); go_simp) <;> with_reducible rfl
         (try simp only [Act.put, lqa, lqb, lqc, lqd, lqe, lqf])
        refine tkw ?_
        refine wpAnyH_done (by kernel_rfl) ?_ _
        have HKZ : Hid _ := HKD.out.below hbz
        have HUZ : Hid (Upd X w wz) := Upd.trans HUD.out (Upd.of_below hbz)
        clear hbz hh c0 c1
        have HM : Hid _ := HY.out rfl
        go_wp2_with fail
        go_roundw
        case rel => exact ⟨k + 1, by omega, by go_num, by rw [HM.out]; exact HKZ.out, HUZ.out⟩
        case measure => simp [intOf]; omega
      ·go_wp2_with fail
       refine ha.mono ?_
       rintro x w1 ⟨rfl, hb1⟩
       obtain ⟨V, hV⟩ : ∃ V, V = w1.alloc (.cells #[.int .i64 f, .bool true] 50) := ⟨_, rfl⟩
       have hbV : Below wr.heap.size wr V := by rw [hV]; exact hb1.alloc hb1.size _
       have hnew : V.heap[w1.heap.size]? = some (.cells #[.int .i64 f, .bool true] 50) := by rw [hV]; exact heap_alloc_new _ _
       have hbD : Below wr.heap.size wr V.drew := hbV.drew
       have c0 : V.drew.cell? ⟨w1.heap.size, 0, none⟩ = some (.int .i64 f) := by rw [cell_of_heap (w := V.drew) hnew]; rfl
       have hKD := HK.out.below hbD
       have c1 := hKD.x1
       obtain ⟨sv, hC⟩ := hKD.caps
       have hh := rhas_at Q.M Q.c sv L last m 1 f 3 V.drew hC (by have := HL.out.len; omega) HL.out.rsanes hI
       rw [← HL.out.rel.has] at hh
       have HB : Hid (holdB T m (f, true) = hasB T m 1 f 3) := rfl
       rw [HB.out] at HY HX
       have HKD : Hid _ := hKD
       have HUD : Hid (Upd X w V.drew) := Upd.trans HU.out (Upd.of_below hbD)
       clear hKD hC hnew hbV hbD hb1 HB ha
       generalize hasB T m 1 f 3 = R at *
       go_wp2_with fail
       rw [← hV]
       clear hV
       cases R
       ·skip
        refine wp_region_held_drew (S := fun w' => w'.cell? ⟨w1.heap.size, 0, none⟩ = some (.int .i64 f) ∧ w'.cell? ⟨X, 1, none⟩ = some (ptr Q.c)) (by kernel_rfl) ⟨c0, c1⟩ (fun hHeld => ?_)
        refine tkz [0, 1, 2, 3, 4, 5, 6, 7] ?_
        iterate 8
         refine tky (v := ?_) rfl (by kernel_rfl) (by kernel_rfl) (by kernel_rfl) (fun _ _ _ h => h) (Or.inl ⟨by kernel_rfl, ?_⟩) (by assumption) ?_
         rotate_left
         ·(intro w hSw; (try dsimp only at hSw); go_simp) <;> with_reducible rfl
         (try simp only [Act.put, lqa, lqb, lqc, lqd, lqe, lqf])
        refine tkw ?_
        refine wpAnyH_ready (rs := [8]) (by kernel_rfl) (by simp) ?_
        refine AllReadyH.cons rfl (fun K hK => ?_) AllReadyH.nil
        go_simp
        refine hh.mono ?_
        rintro x wz ⟨rfl, hbz⟩
        refine hK.out _ _ ⟨by rw [hbz.cell (cell_lt c0)]; exact c0, by rw [hbz.cell (cell_lt c1)]; exact c1⟩ (fun hHeld => ?_)
        clear hK K
        (try simp only [Act.put, lqa, lqb, lqc, lqd, lqe, lqf])
        refine tkz [9] ?_
        iterate 1
         refine tky (v := ?_) rfl (by kernel_rfl) (by kernel_rfl) (by kernel_rfl) (fun _ _ _ h => h) (Or.inl ⟨by kernel_rfl, ?_⟩) (by assumption) ?_
         rotate_left
         ·(intro w hSw; (try dsimp only at hSw); go_simp) <;> with_reducible rfl
         (try simp only [Act.put, lqa, lqb, lqc, lqd, lqe, lqf])
        refine tkw ?_
        refine wpAnyH_done (by kernel_rfl) ?_ _
        have HKZ : Hid _ := HKD.out.below hbz
        have HUZ : Hid (Upd X w wz) := Upd.trans HUD.out (Upd.of_below hbz)
        clear hbz hh c0 c1
        have HM : Hid _ := HX.out rfl
        have hun := runmap_at HKZ.out.tbl hm (k : Int)
        rw [setF_same] at hun
        generalize Mu.unmapV (tidyTo T m (F m) k) k = UV at *
        go_wp2_with fail
        refine hun.mono ?_
        rintro x w5 ⟨rfl, ht5, hu5⟩
        have HK5 : Hid (RkAt w5 X Q n vs L last (setF (tidyUp T F m) m (tidyTo T m (F m) (k + 1)))) := by
         have := HKZ.out.updT ht5 hu5
         rw [setF_setF, ← HM.out] at this
         exact this
        have HU5 : Hid _ := Upd.trans HUZ.out hu5
        clear ht5 hu5 hun
        go_wp2_with fail
        go_roundw
        case rel => exact ⟨k + 1, by omega, by go_num, HK5.out, HU5.out⟩
        case measure => simp [intOf]; omega
       ·skip
        refine wp_region_held_drew (S := fun w' => w'.cell? ⟨w1.heap.size, 0, none⟩ = some (.int .i64 f) ∧ w'.cell? ⟨X, 1, none⟩ = some (ptr Q.c)) (by kernel_rfl) ⟨c0, c1⟩ (fun hHeld => ?_)
        refine tkz [0, 1, 2, 3, 4, 5, 6, 7] ?_
        iterate 8
         refine tky (v := ?_) rfl (by kernel_rfl) (by kernel_rfl) (by kernel_rfl) (fun _ _ _ h => h) (Or.inl ⟨by kernel_rfl, ?_⟩) (by assumption) ?_
         rotate_left
         ·(intro w hSw; (try dsimp only at hSw); go_simp) <;> with_reducible rfl
         (try simp only [Act.put, lqa, lqb, lqc, lqd, lqe, lqf])
        refine tkw ?_
        refine wpAnyH_ready (rs := [8]) (by kernel_rfl) (by simp) ?_
        refine AllReadyH.cons rfl (fun K hK => ?_) AllReadyH.nil
        go_simp
        refine hh.mono ?_
        rintro x wz ⟨rfl, hbz⟩
        refine hK.out _ _ ⟨by rw [hbz.cell (cell_lt c0)]; exact c0, by rw [hbz.cell (cell_lt c1)]; exact c1⟩ (fun hHeld => ?_)
        clear hK K
        (try simp only [Act.put, lqa, lqb, lqc, lqd, lqe, lqf])
        refine tkz [9] ?_
        iterate 1
         refine tky (v := ?_) rfl (by kernel_rfl) (by kernel_rfl) (by kernel_rfl) (fun _ _ _ h => h) (Or.inl ⟨by kernel_rfl, ?_⟩) (by assumption) ?_
         rotate_left
         ·(intro w hSw; (try dsimp only at hSw); go_simp) <;> with_reducible rfl
         (try simp only [Act.put, lqa, lqb, lqc, lqd, lqe, lqf])
        refine tkw ?_
        refine wpAnyH_done (by kernel_rfl) ?_ _
        have HKZ : Hid _ := HKD.out.below hbz
        have HUZ : Hid (Upd X w wz) := Upd.trans HUD.out (Upd.of_below hbz)
        clear hbz hh c0 c1
        have HM : Hid _ := HY.out rfl
        go_wp2_with fail
        go_roundw
        case rel => exact ⟨k + 1, by omega, by go_num, by rw [HM.out]; exact HKZ.out, HUZ.out⟩
        case measure => simp [intOf]; omega
    ·obtain rfl : k = 4 := by omega
     go_wp2
     go_roundw
     case rel => exact ⟨m + 1, by omega, by go_num, by rw [← H4.out]; exact hK, hU⟩
     case measure => simp [intOf]; omega
  ·obtain rfl : m = 12 := by omega
   go_wp2
   go_end0
   exact ⟨rfl, hK.same (fun e he => by unfold tidyUp; rw [if_pos he]; rfl), hU⟩
end
end Ex
end Go.Proofs.YtbhpafgoofkkmaaGreatDoor
namespace Go.Proofs.YtbhpafgoofkkmaaGreatDoor
open Go.RowKit Ca
namespace Ex
section
variable {w w' : World} {X : Nat} {Q : RLay} {n : Nat} {vs : List Int} {L : List Ce} {last : Int} {F : Pages} {T : Tab}
def Grew (w' : World) (X : Nat) (Q : RLay) (n : Nat) (vs : List Int) (L : List Ce) (last : Int) (F : Pages) (T : Tab) : Prop :=
 ∃ L' last', RkAt w' X Q n vs L' last' F ∧ Rel T L' last' ∧ 0 ≤ last' ∧ L'.length ≤ L.length + 1 ∧ last' ≤ last + 1
set_option maxHeartbeats 4000000 in
theorem rkalloc_at (h : RkAt w X Q n vs L last F) (hk : Lnk T L last n F) (e : Int) :
  Calls Tryz.prog 88 #[ptr X, .int .i64 e] w fun x w' => x = .returned (.tuple #[.int .i64 (allocA T n e), .int .i64 (allocR T n e)]) ∧ Grew w' X Q n (allocV T n e vs) L last F (allocT T n e) ∧ UpdP (RFoot X Q n) w w' := by
 have hE := renv_at e
 cases he : isE e with
 | false =>
  rw [he] at hE
  have HA : Hid (allocA T n e = 0 ∧ allocR T n e = 101 ∧ allocT T n e = T ∧ allocV T n e vs = vs) := by
   show _ ∧ _
   simp [allocA, allocR, allocT, allocV, he]
  have HK : Hid _ := h
  have HL : Hid _ := hk
  clear he h hk
  go_enter Tryz.func88, Tryz.ntmps88
  go_wp2_with (go_at_call 59; refine (hE _).mono ?_; rintro e w1 ⟨rfl, hw1⟩; rw [hw1]; clear hw1 w1)
  go_ret2
  obtain ⟨a1, a2, a3, a4⟩ := HA.out
  exact ⟨by rw [a1, a2]; rfl, by rw [a3, a4]; exact ⟨L, last, HK.out, HL.out.rel, HL.out.pos, by omega, by omega⟩, UpdP.refl _ _⟩
 | true =>
  rw [he] at hE
  have HK : Hid _ := h
  have HL : Hid _ := hk
  have HE : Hid _ := he
  have hn2 := hk.n2
  clear h hk he
  go_enter Tryz.func88, Tryz.ntmps88
  go_wp2_with (go_at_call 59; refine (hE _).mono ?_; rintro e w1 ⟨rfl, hw1⟩; rw [hw1]; clear hw1 w1)
  go_loopw [6] (fun s wr => ∃ (k : Nat), k ≤ n ∧ s = .int .i64 k ∧ Hid (∀ i : Nat, i < k → cnt T 768 (i : Int) ≠ 0) ∧ Below w.heap.size w wr) (fun s _ => n - (intOf s).toNat)
  case atStart => exact ⟨0, by omega, rfl, (show Hid _ from fun j hj => absurd hj (Nat.not_lt_zero _)), Below.refl _ _⟩
  case round =>
   obtain ⟨k, hk', rfl, HN, hb⟩ := hrel
   have hKr := HK.out.below hb
   have x0 := hKr.x0
   have x1 := hKr.x1
   have xm := hKr.mem.cell
   by_cases hlt : k < n
   ·have i1 : decide ((k : Int) < n) = true := decide_eq_true (by omega)
    have hI : I64 (k : Int) := ⟨by omega, by omega⟩
    obtain ⟨sv, hC⟩ := hKr.caps
    have hh := rhold_at Q.M Q.c sv L last 1 k wr hC (by have := HL.out.len; omega) HL.out.rsanes hI
    have HR : Hid _ := rel_hold HL.out.rel HL.out.inv (k : Int)
    have hll : (holdL 1 (k : Int) L).length ≤ 850 := by have h1 := holdL_len 1 k L []; have h2 := HL.out.len; rw [List.length_nil] at h1; unfold holdL; omega
    have HKr : Hid _ := hKr
    clear hKr hC hI
    by_cases h0 : cnt T 768 (k : Int) = 0
    ·have hz : (holdL 1 (k : Int) L).length = 0 := HR.out.2 h0
     have hfi : freeI T n = (k : Int) := by
      rcases freeI_cases T n with ⟨_, h2⟩ | ⟨f, hf, h2, h3, h4⟩
      ·exact absurd h0 (h2 k hlt)
      ·have : f = k := by
        rcases Nat.lt_trichotomy f k with q | q | q
        ·exact absurd h3 (HN.out f q)
        ·exact q
        ·exact absurd h0 (h4 k q)
       rw [h2, this]
     have hn0 : ¬ (freeI T n < 0) := by rw [hfi]; omega
     have hok := addOK_frame (e := e) (f := k) HE.out (by omega)
     have HA0 : Hid (allocA T n e = putA T e.toNat ∧ allocR T n e = putE T e.toNat ∧ allocT T n e = putT T e.toNat ⟨⟨1, k, 1, 7⟩, 0, 0⟩ ∧ allocV T n e vs = if freeT T e.toNat < 64 then Me.putZ n vs k else vs) := by
      show _ ∧ _
      have he := HE.out
      simp only [allocA, allocR, allocT, allocV, he, if_true, hfi]
      exact ⟨rfl, rfl, rfl, rfl⟩
     obtain ⟨r1, r2, r3, r4, r5, r6⟩ := HL.out.rel.add HL.out.pos e ⟨1, k, 1, 7⟩
     have HT : addT T e ⟨1, k, 1, 7⟩ = putT T e.toNat ⟨⟨1, k, 1, 7⟩, 0, 0⟩ := by unfold addT; rw [if_pos hok]
     have t1 : addA T e ⟨1, k, 1, 7⟩ = putA T e.toNat := by unfold addA; rw [if_pos hok]
     have t2 : addR T e ⟨1, k, 1, 7⟩ = putE T e.toNat := by unfold addR; rw [if_pos hok]
     rw [HT] at r3
     have had : ∀ W, RkAt W X Q n vs L last F → Calls Tryz.prog 146 #[ptr Q.c, .int .i64 e, .agg #[.int .i64 1, .int .i64 k, .int .i64 1, .int .i64 7]] W fun x w' => x = .returned (.tuple #[.int .i64 (putA T e.toNat), .int .i64 (putE T e.toNat)]) ∧ RkAt w' X Q n vs (raddL L last e ⟨1, k, 1, 7⟩) (raddN L last e ⟨1, k, 1, 7⟩) F ∧ Upd Q.c W w' := by
      intro W hW
      obtain ⟨sv, hC⟩ := hW.caps
      have := radd_at Q.M Q.c sv L last e ⟨1, k, 1, 7⟩ W hC hW.MS (by have := HL.out.len; omega) ⟨HL.out.pos, by have := HL.out.top; omega⟩
      rw [← r1, ← r2, t1, t2] at this
      refine this.mono ?_
      rintro x w' ⟨hx, sv', hc', hu⟩
      exact ⟨hx, hW.updC hc' hu, hu⟩
     have HG : Hid _ := And.intro r3 (And.intro r4 (And.intro r5 r6))
     have HPos : Hid _ := HL.out.pos
     clear HR h0 hfi hn0 hok HT t1 t2 r1 r2 r3 r4 r5 r6
     generalize raddL L last e ⟨1, k, 1, 7⟩ = L' at *
     generalize raddN L last e ⟨1, k, 1, 7⟩ = last' at *
     by_cases hfr : freeT T e.toNat < 64
     ·have HE2 : Hid (putE T e.toNat = 0) := by show _ = _; unfold putE; rw [if_pos hfr]
      have HV : Hid (allocV T n e vs = Me.putZ n vs k) := by show _ = _; rw [HA0.out.2.2.2, if_pos hfr]
      rw [HE2.out] at had
      generalize putA T e.toNat = A at *
      generalize putT T e.toNat ⟨⟨1, k, 1, 7⟩, 0, 0⟩ = T' at *
      clear hfr
      go_wp2_with fail
      refine hh.mono ?_
      rintro x w1 ⟨v, rfl, hv, hb1⟩
      obtain ⟨va, vc, rfl, _⟩ := own_irow hv
      rw [hz]
      have hK1 := HKr.out.below hb1
      have y1 := hK1.x1
      have H1 : Hid _ := hK1
      clear hv hh hz hK1 x0 x1 xm
      go_wp2_with fail
      refine (had w1 H1.out).mono ?_
      rintro x w2 ⟨rfl, hK2, hu2⟩
      have y0 := hK2.x0
      have hzr := Me.rzero_all hK2.mem k
      have H2 : Hid _ := hK2
      clear hK2 y1 had
      generalize Me.errZ n k = ZE at *
      go_wp2_with fail
      refine hzr.mono ?_
      rintro x w3 ⟨rfl, hM3, hu3⟩
      have H3 : Hid _ := H2.out.updM hM3 hu3
      have HU : Hid (UpdP (RFoot X Q n) w w3) := (((UpdP.of_below hb).trans (UpdP.of_below hb1)).trans (hu2.p _ (Or.inr (Or.inl rfl)))).trans (hu3.mono (fun b hb => Or.inr (Or.inr hb)))
      clear hM3 hu3 hu2 hzr y0
      go_wp2_with fail
      go_ret2
      obtain ⟨a1, a2, a3, a4⟩ := HA0.out
      obtain ⟨g1, g2, g3, g4⟩ := HG.out
      have hp := HPos.out
      exact ⟨by rw [a1, a2, HE2.out]; rfl, by rw [a3, HV.out]; exact ⟨L', last', H3.out, g1, by omega, g2, g4⟩, HU.out⟩
     ·have HE2 : Hid (putE T e.toNat = 105) := by show _ = _; unfold putE; rw [if_neg hfr]
      have HA2 : Hid (putA T e.toNat = 0) := by show _ = _; unfold putA; rw [if_neg hfr]
      have HV : Hid (allocV T n e vs = vs) := by show _ = _; rw [HA0.out.2.2.2, if_neg hfr]
      rw [HE2.out, HA2.out] at had
      generalize putT T e.toNat ⟨⟨1, k, 1, 7⟩, 0, 0⟩ = T' at *
      clear hfr
      go_wp2_with fail
      refine hh.mono ?_
      rintro x w1 ⟨v, rfl, hv, hb1⟩
      obtain ⟨va, vc, rfl, _⟩ := own_irow hv
      rw [hz]
      have hK1 := HKr.out.below hb1
      have y1 := hK1.x1
      have H1 : Hid _ := hK1
      clear hv hh hz hK1 x0 x1 xm
      go_wp2_with fail
      refine (had w1 H1.out).mono ?_
      rintro x w2 ⟨rfl, hK2, hu2⟩
      have H2 : Hid _ := hK2
      have HU : Hid (UpdP (RFoot X Q n) w w2) := ((UpdP.of_below hb).trans (UpdP.of_below hb1)).trans (hu2.p _ (Or.inr (Or.inl rfl)))
      clear hK2 y1 had hu2
      go_wp2_with fail
      go_ret2
      obtain ⟨a1, a2, a3, a4⟩ := HA0.out
      obtain ⟨g1, g2, g3, g4⟩ := HG.out
      have hp := HPos.out
      exact ⟨by rw [a1, a2, HE2.out, HA2.out]; rfl, by rw [a3, HV.out]; exact ⟨L', last', H2.out, g1, by omega, g2, g4⟩, HU.out⟩
    ·have HM : Hid (∀ i : Nat, i < k + 1 → cnt T 768 (i : Int) ≠ 0) := by
      intro i hi
      by_cases e1 : i = k
      ·rw [e1]; exact h0
      ·exact HN.out i (by omega)
     have hz : 0 < (holdL 1 (k : Int) L).length := by
      have : (holdL 1 (k : Int) L).length ≠ 0 := fun e => h0 (HR.out.1 e)
      omega
     have hz2 : decide (0 < (holdL 1 (k : Int) L).length) = true := decide_eq_true hz
     clear HR h0 HKr
     generalize (holdL 1 (k : Int) L).length = q at *
     go_wp2_with fail
     refine hh.mono ?_
     rintro x w1 ⟨v, rfl, hv, hb1⟩
     obtain ⟨va, vc, rfl⟩ : ∃ va vc, v = .slice va q vc := by
      rcases hv.2 with ⟨e2, e3⟩ | ⟨g, cap, cur, e2, _⟩
      ·exact ⟨_, _, by rw [e2, e3]⟩
      ·exact ⟨_, _, e2⟩
     clear hv hh
     go_wp2
     go_roundw
     case rel => exact ⟨k + 1, by omega, by go_num, HM, hb.trans (hb1.mono hb.size)⟩
     case measure => simp [intOf]; omega
   ·obtain rfl : k = n := by omega
    have HA : Hid (allocA T k e = 0 ∧ allocR T k e = 106 ∧ allocT T k e = T ∧ allocV T k e vs = vs) := by
     show _ ∧ _
     have hfi : freeI T k = -1 := by
      rcases freeI_cases T k with ⟨h1, _⟩ | ⟨f, hf, _, h3, _⟩
      ·exact h1
      ·exact absurd h3 (HN.out f hf)
     have he := HE.out
     simp [allocA, allocR, allocT, allocV, he, hfi]
    have HKr : Hid _ := hKr
    clear hKr
    go_wp2
    go_ret2
    obtain ⟨a1, a2, a3, a4⟩ := HA.out
    exact ⟨by rw [a1, a2]; rfl, by rw [a3, a4]; exact ⟨L, last, HKr.out, HL.out.rel, HL.out.pos, by omega, by omega⟩, UpdP.of_below hb⟩
end
end Ex
end Go.Proofs.YtbhpafgoofkkmaaGreatDoor
namespace Go.Proofs.YtbhpafgoofkkmaaGreatDoor
open Go.RowKit Ca
namespace Ex
theorem rev_N (T : Tab) (p : Int × Int) (hp : p.2 ≠ 0) : ∃ N, (Ca.revS T p (N + 1)).2.length = N + 1 := by
 have mono : ∀ i, (Ca.revS T p i).2.length ≤ (Ca.revS T p (i + 1)).2.length := by
  intro i
  show _ ≤ (Ca.revS T p (i + 1)).2.length
  rw [Ca.revS]
  split
  ·exact Nat.le_refl _
  ·simp
 have step : ∀ i, (∃ N, (Ca.revS T p (N + 1)).2.length = N + 1) ∨ i < (Ca.revS T p i).2.length := by
  intro i
  induction i with
  | zero => right; simp [Ca.revS]
  | succ i ih =>
   rcases ih with h | h
   ·exact Or.inl h
   ·have := mono i
    by_cases e : (Ca.revS T p (i + 1)).2.length = i + 1
    ·exact Or.inl ⟨i, e⟩
    ·right; omega
 rcases step 769 with h | h
 ·exact h
 ·have := revS_len T p hp 769
  omega
section
variable {w w' : World} {X : Nat} {Q : RLay} {n : Nat} {vs : List Int} {L : List Ce} {last : Int} {F : Pages} {T : Tab}
theorem rkgive_at (h : RkAt w X Q n vs L last F) (hk : Lnk T L last n F) (e s q r : Int) :
  Calls Tryz.prog 84 #[ptr Q.c, .int .i64 e, .int .i64 s, .int .i64 q, .int .i64 r] w fun x w' => x = .returned (.tuple #[.int .i64 (giveA T e s q r), .int .i64 (giveR T e s q r)]) ∧ Grew w' X Q n vs L last F (giveT T e s q r) ∧ UpdP (RFoot X Q n) w w' := by
 obtain ⟨sv, hC⟩ := h.caps
 have hl := hk.len
 have ht := hk.top
 rcases hk.rel.find e s with ⟨hf, hi⟩ | ⟨k, d, hf, hd, rfl, rfl, hg, hi⟩
 ·obtain ⟨q1, q2, q3⟩ := Rel.giveNo hi q r
  rw [q1, q2, q3]
  refine (rgive_no Q.M Q.c sv L last e s q r w hC (by omega) hf).mono ?_
  rintro x w' ⟨hx, rfl⟩
  exact ⟨hx, ⟨L, last, h, hk.rel, hk.pos, by omega, by omega⟩, UpdP.refl _ _⟩
 ·obtain ⟨q1, q2, q3, q4, q5, q6⟩ := hk.rel.give hk.pos (List.mem_of_getElem? hd) hg hi q r
  rw [q1, q2]
  refine (rgive_yes Q.M Q.c sv L last d.env d.slot q r k d w hC h.MS (by omega) ⟨hk.pos, by omega⟩ hf hd).mono ?_
  rintro x w' ⟨hx, sv', hc', hu⟩
  have hp := hk.pos
  exact ⟨hx, ⟨_, _, h.updC hc' hu, q3, by omega, q4, q6⟩, hu.p _ (Or.inr (Or.inl rfl))⟩
theorem Lnk.next {T' : Tab} {L' : List Ce} {last' : Int} (hk : Lnk T L last n F) (hr : Rel T' L' last') (hi : KInv T' n) (hp : 0 ≤ last') (h1 : L'.length ≤ L.length) (h2 : last' ≤ last) : Lnk T' L' last' n F :=
 ⟨hr, hi, hk.n1, hk.n2, hk.pg, hp, by have := hk.len; omega, by have := hk.top; omega⟩
theorem rkdrop_caps (h : RkAt w X Q n vs L last F) (hk : Lnk T L last n F) (e s : Int) :
  Calls Tryz.prog 150 #[ptr Q.c, .int .i64 e, .int .i64 s] w fun x w' => x = .returned (.tuple #[.bool (dropB T e s), .int .i64 (dropR T e s)]) ∧ RkAt w' X Q n vs (rdropL L e s) last F ∧ Upd Q.c w w' := by
 obtain ⟨sv, hC⟩ := h.caps
 obtain ⟨q1, q2, q3⟩ := hk.rel.dropAny e s
 rw [q2, q3]
 refine (rdrop_at Q.M Q.c sv L last e s w hC h.MS (by have := hk.len; omega) hk.rsanes).mono ?_
 rintro x w' ⟨hx, sv', hc', hu⟩
 exact ⟨hx, h.updC hc' hu, hu⟩
theorem rkfree_at (h : RkAt w X Q n vs L last F) (hk : Lnk T L last n F) (e s : Int) :
  Calls Tryz.prog 89 #[ptr X, .int .i64 e, .int .i64 s] w fun x w' => x = .returned (.int .i64 (dropR T e s)) ∧ Grew w' X Q n vs L last (tidyF (dropT T e s) F) (dropT T e s) ∧ UpdP (RFoot X Q n) w w' := by
 have hd := rkdrop_caps h hk e s
 have hk2 : Lnk (dropT T e s) (rdropL L e s) last n F := hk.next (hk.rel.dropAny e s).1 (hk.inv.drop e s) hk.pos (rdropL_len L e s) (by omega)
 have HL : Hid _ := rdropL_len L e s
 have HK2 : Hid _ := hk2
 have hc := h.x1
 clear h hk hk2
 generalize dropB T e s = A at *
 generalize dropR T e s = R at *
 generalize dropT T e s = T' at *
 generalize rdropL L e s = L' at *
 go_enter Tryz.func89, Tryz.ntmps89
 go_wp2_with fail
 refine hd.mono ?_
 rintro x w1 ⟨rfl, hK1, hu1⟩
 have ht := rktidy_at hK1 HK2.out
 have HU : Hid (UpdP (RFoot X Q n) w w1) := hu1.p _ (Or.inr (Or.inl rfl))
 clear hK1 hu1 hd hc
 go_wp2_with fail
 refine ht.mono ?_
 rintro x w2 ⟨rfl, hK2, hu2⟩
 have HU2 : Hid _ := HU.out.trans (hu2.p _ (Or.inl rfl))
 have H2 : Hid _ := hK2
 clear hK2 hu2 ht
 go_wp2_with fail
 go_ret
 exact ⟨rfl, ⟨L', last, H2.out, HK2.out.rel, HK2.out.pos, by have := HL.out; omega, by omega⟩, HU2.out⟩
theorem rrev_len (L : List Ce) (root : Int) (bad : List Int) : (rrevL L root bad).length ≤ L.length := List.length_filter_le _ _
theorem rkrevoke_caps (h : RkAt w X Q n vs L last F) (hk : Lnk T L last n F) (e s : Int) :
  Calls Tryz.prog 85 #[ptr Q.c, .int .i64 e, .int .i64 s] w fun x w' => ∃ (N : Int) (L' : List Ce), x = .returned (.tuple #[.int .i64 N, .int .i64 (revR T e s)]) ∧ RkAt w' X Q n vs L' last F ∧ Rel (revT T e s) L' last ∧ L'.length ≤ L.length ∧ Upd Q.c w w' := by
 obtain ⟨sv, hC⟩ := h.caps
 have hl := hk.len
 rcases hk.rel.find e s with ⟨hf, hi⟩ | ⟨k, d, hf, hd, rfl, rfl, hg, hi⟩
 ·refine (rrevoke_no Q.M Q.c sv L last e s w hC (by omega) hf).mono ?_
  rintro x w' ⟨hx, rfl⟩
  refine ⟨0, L, by rw [hx]; unfold revR; rw [hi]; rfl, h, ?_, Nat.le_refl _, Upd.refl _ _⟩
  unfold revT
  rw [hi]
  exact hk.rel
 ·have hm := List.mem_of_getElem? hd
  obtain ⟨N, hN⟩ := rev_N T (d.env, d.slot) (hk.rel.slot hm)
  refine (rrevoke_yes Q.M Q.c sv L last d.env d.slot k d w hC h.MS (by omega) hf hd).mono ?_
  rintro x w' ⟨bad, hb, hx, sv', hc', hu⟩
  obtain ⟨_, hr⟩ := hk.rel.rev hm N hN hb
  refine ⟨_, rrevL L d.no bad, by rw [hx]; unfold revR; rw [if_pos hi], h.updC hc' hu, ?_, rrev_len _ _ _, hu⟩
  rw [revT_is hi hN]
  exact hr
theorem rkrevoke_at (h : RkAt w X Q n vs L last F) (hk : Lnk T L last n F) (e s : Int) :
  Calls Tryz.prog 90 #[ptr X, .int .i64 e, .int .i64 s] w fun x w' => x = .returned (.int .i64 (revR T e s)) ∧ Grew w' X Q n vs L last (tidyF (revT T e s) F) (revT T e s) ∧ UpdP (RFoot X Q n) w w' := by
 have hd := rkrevoke_caps h hk e s
 have HI : Hid _ := hk.inv.rev e s
 have HK : Hid _ := hk
 have hc := h.x1
 clear h hk
 generalize revR T e s = R at *
 generalize revT T e s = T' at *
 go_enter Tryz.func90, Tryz.ntmps90
 go_wp2_with fail
 refine hd.mono ?_
 rintro x w1 ⟨N, L', rfl, hK1, hr1, hl1, hu1⟩
 have hk2 : Lnk T' L' last n F := HK.out.next hr1 HI.out HK.out.pos hl1 (by omega)
 have ht := rktidy_at hK1 hk2
 have HK2 : Hid _ := hk2
 have HL : Hid _ := hl1
 have HU : Hid (UpdP (RFoot X Q n) w w1) := hu1.p _ (Or.inr (Or.inl rfl))
 clear hK1 hu1 hd hc hk2 hr1 hl1
 go_wp2_with fail
 refine ht.mono ?_
 rintro x w2 ⟨rfl, hK2, hu2⟩
 have HU2 : Hid _ := HU.out.trans (hu2.p _ (Or.inl rfl))
 have H2 : Hid _ := hK2
 clear hK2 hu2 ht
 go_wp2_with fail
 go_ret
 exact ⟨rfl, ⟨L', last, H2.out, HK2.out.rel, HK2.out.pos, by have := HL.out; omega, by omega⟩, HU2.out⟩
set_option maxHeartbeats 4000000 in
theorem rkmap_at (h : RkAt w X Q n vs L last F) (hk : Lnk T L last n F) (e p s : Int) (b : Bool) :
  Calls Tryz.prog 91 #[ptr X, .int .i64 e, .int .i64 p, .int .i64 s, .bool b] w fun x w' => x = .returned (.int .i64 (kmapR T e p s b)) ∧ RkAt w' X Q n vs L last (kmapF T F e p s b) ∧ UpdP (RFoot X Q n) w w' := by
 have hE := renv_at e
 cases he : isE e with
 | false =>
  rw [he] at hE
  have HA : Hid (kmapR T e p s b = 101 ∧ kmapF T F e p s b = F) := by
   show _ ∧ _
   simp [kmapR, kmapF, he]
  have HK : Hid _ := h
  clear he h hk
  go_enter Tryz.func91, Tryz.ntmps91
  go_wp2_with (go_at_call 59; refine (hE _).mono ?_; rintro e w1 ⟨rfl, hw1⟩; rw [hw1]; clear hw1 w1)
  go_ret
  exact ⟨by rw [HA.out.1]; rfl, by rw [HA.out.2]; exact HK.out, UpdP.refl _ _⟩
 | true =>
  rw [he] at hE
  cases hp : Mu.isPg p with
  | false =>
   have HA : Hid (kmapR T e p s b = 101 ∧ kmapF T F e p s b = F) := by
    show _ ∧ _
    simp [kmapR, kmapF, hp]
   have HK : Hid _ := h
   rcases pgNot hp with h1 | ⟨h1, h2⟩
   all_goals
    clear he h hp hk
    go_enter Tryz.func91, Tryz.ntmps91
    go_wp2_with (go_at_call 59; refine (hE _).mono ?_; rintro e w1 ⟨rfl, hw1⟩; rw [hw1]; clear hw1 w1)
    go_ret
    exact ⟨by rw [HA.out.1]; rfl, by rw [HA.out.2]; exact HK.out, UpdP.refl _ _⟩
  | true =>
   obtain ⟨m, rfl, hm⟩ := isE_nat he
   obtain ⟨j, rfl⟩ : ∃ j : Nat, p = (j : Int) := ⟨p.toNat, by simp [Mu.isPg] at hp; omega⟩
   have i1 : decide ((j : Int) < 0) = false := by simp
   have i2 : decide (4 ≤ (j : Int)) = false := by simp [Mu.isPg] at hp; simp; omega
   have hcap := rkcap_at h hk m s (prt b) (by cases b; exact Or.inl rfl; exact Or.inr (Or.inr rfl))
   have hv := fun f (hh : frm T m s (prt b) = some f) => hk.inv.frm hh
   have HA : Hid (kmapR T m j s b = (if (frm T m s (prt b)).isSome = true then 0 else 104) ∧ kmapF T F m j s b = match frm T m s (prt b) with | none => F | some f => setF F m (Mu.mapF (F m) j (f, b))) := by
    show _ ∧ _
    simp only [kmapR, kmapF, he, hp, Bool.and_self, if_true, Int.toNat_natCast]
    exact ⟨by first | trivial | rfl, by first | trivial | rfl⟩
   have HK : Hid _ := h
   have HPG : Hid _ := hp
   have HID : Hid (∀ f, frm T m s (prt b) = some f → (getT T m s).id = f) := by
    intro f hf
    unfold frm at hf
    split at hf
    ·cases hf; rfl
    ·cases hf
   have i3 : (m : Int) < 12 := by omega
   have hq : prt b = if b then 3 else 1 := by cases b <;> rfl
   clear he h hp hk
   generalize getT T m s = gx at *
   cases hfr : frm T m s (prt b) with
   | none =>
    rw [hfr] at hcap
    have HA2 : Hid (kmapR T m j s b = 104 ∧ kmapF T F m j s b = F) := by
     show _ ∧ _
     rw [HA.out.1, HA.out.2, hfr]
     exact ⟨rfl, rfl⟩
    simp only [Option.isSome_none] at hcap
    rw [hq] at hcap
    clear HA hfr hv HID hq
    cases b
    all_goals
     simp only [if_true, if_false, Bool.false_eq_true] at hcap
     go_enter Tryz.func91, Tryz.ntmps91
     go_wp2_with fail
     refine (hE _).mono ?_
     rintro x w1 ⟨rfl, hw1⟩
     rw [hw1]
     clear hw1 w1
     go_wp2_with fail
     refine hcap.mono ?_
     rintro x w1 ⟨rfl, hb1⟩
     go_wp2_with fail
     go_ret
     exact ⟨by rw [HA2.out.1]; rfl, by rw [HA2.out.2]; exact HK.out.below hb1, UpdP.of_below hb1⟩
   | some f =>
    rw [hfr] at hcap
    have hfv := hv f hfr
    have hid := HID.out f hfr
    rw [hid] at hcap
    have HA2 : Hid (kmapR T m j s b = 0 ∧ kmapF T F m j s b = setF F m (Mu.mapF (F m) j (f, b))) := by
     show _ ∧ _
     rw [HA.out.1, HA.out.2, hfr]
     exact ⟨rfl, rfl⟩
    simp only [Option.isSome_some] at hcap
    rw [hq] at hcap
    have HMV : Hid (Mu.mapV j (f, b) = 0) := by
     show _ = _
     simp [Mu.mapV, HPG.out, hfv.1]
    have hmap := fun V (hV : RkAt V X Q n vs L last F) => rmap_at hV.tbl hm (j : Int) (f, b)
    have hmv := HMV.out
    simp only [hmv, Mu.pv] at hmap
    clear HA hfr hv HID hid hq hfv hmv
    cases b
    all_goals
     simp only [if_true, if_false, Bool.false_eq_true] at hcap
     go_enter Tryz.func91, Tryz.ntmps91
     go_wp2_with fail
     refine (hE _).mono ?_
     rintro x w1 ⟨rfl, hw1⟩
     rw [hw1]
     clear hw1 w1
     go_wp2_with fail
     refine hcap.mono ?_
     rintro x w1 ⟨rfl, hb1⟩
     have hK1 := HK.out.below hb1
     have hma := hmap w1 hK1
     have H1 : Hid _ := hK1
     clear hK1 hcap hE hmap
     go_wp2_with fail
     refine hma.mono ?_
     rintro x w2 ⟨rfl, ht2, hu2⟩
     have H2 : Hid _ := H1.out.updT ht2 hu2
     have HU : Hid (UpdP (RFoot X Q n) w w2) := (UpdP.of_below hb1).trans (hu2.p _ (Or.inl rfl))
     clear ht2 hu2 hma
     go_wp2_with fail
     go_ret
     exact ⟨by rw [HA2.out.1]; rfl, by rw [HA2.out.2]; exact H2.out, HU.out⟩
theorem rkunmap_at (h : RkAt w X Q n vs L last F) (e p : Int) :
  Calls Tryz.prog 92 #[ptr X, .int .i64 e, .int .i64 p] w fun x w' => x = .returned (.int .i64 (kunmapR F e p)) ∧ RkAt w' X Q n vs L last (kunmapF F e p) ∧ UpdP (RFoot X Q n) w w' := by
 have hE := renv_at e
 cases he : isE e with
 | false =>
  rw [he] at hE
  have HA : Hid (kunmapR F e p = 101 ∧ kunmapF F e p = F) := by
   show _ ∧ _
   simp [kunmapR, kunmapF, he]
  have HK : Hid _ := h
  clear he h
  go_enter Tryz.func92, Tryz.ntmps92
  go_wp2_with (go_at_call 59; refine (hE _).mono ?_; rintro e w1 ⟨rfl, hw1⟩; rw [hw1]; clear hw1 w1)
  go_ret
  exact ⟨by rw [HA.out.1]; rfl, by rw [HA.out.2]; exact HK.out, UpdP.refl _ _⟩
 | true =>
  rw [he] at hE
  obtain ⟨m, rfl, hm⟩ := isE_nat he
  have hun := runmap_at h.tbl hm p
  have HA : Hid (kunmapR F m p = Mu.unmapV (F m) p ∧ kunmapF F m p = setF F m (Mu.unmapF (F m) p)) := by
   show _ ∧ _
   simp [kunmapR, kunmapF, he]
  have HK : Hid _ := h
  have i3 : (m : Int) < 12 := by omega
  clear he h
  generalize Mu.unmapV (F m) p = V at *
  go_enter Tryz.func92, Tryz.ntmps92
  go_wp2_with fail
  refine (hE _).mono ?_
  rintro x w1 ⟨rfl, hw1⟩
  rw [hw1]
  clear hw1 w1
  go_wp2_with fail
  refine hun.mono ?_
  rintro x w2 ⟨rfl, ht2, hu2⟩
  have H2 : Hid _ := HK.out.updT ht2 hu2
  have HU : Hid (UpdP (RFoot X Q n) w w2) := hu2.p _ (Or.inl rfl)
  clear ht2 hu2 hun
  go_wp2_with fail
  go_ret
  exact ⟨by rw [HA.out.1]; rfl, by rw [HA.out.2]; exact H2.out, HU.out⟩
end
end Ex
end Go.Proofs.YtbhpafgoofkkmaaGreatDoor
namespace Go.Proofs.YtbhpafgoofkkmaaGreatDoor
open Go.RowKit Ca
namespace Ex
section
variable {w w' : World} {X : Nat} {Q : RLay} {n : Nat} {vs : List Int} {L : List Ce} {last : Int} {F : Pages} {T : Tab}
theorem frm_id {e s r f : Int} (hf : frm T e s r = some f) : (getT T e s).id = f := by
 unfold frm at hf
 split at hf
 ·cases hf; rfl
 ·cases hf
set_option maxHeartbeats 4000000 in
theorem rkload_at (h : RkAt w X Q n vs L last F) (e a : Int) (ha : 0 ≤ a) :
  Calls Tryz.prog 93 #[ptr X, .int .i64 e, .int .u64 a] w fun x w' => x = .returned (.tuple #[.int .u64 (kloadR n vs F e a).1, .int .i64 (kloadR n vs F e a).2]) ∧ Below w.heap.size w w' := by
 have hE := renv_at e
 cases he : isE e with
 | false =>
  rw [he] at hE
  have HA : Hid (kloadR n vs F e a = (0, 101)) := by
   show _ = _
   simp [kloadR, he]
  clear he h
  go_enter Tryz.func93, Tryz.ntmps93
  go_wp2_with (go_at_call 59; refine (hE _).mono ?_; rintro e w1 ⟨rfl, hw1⟩; rw [hw1]; clear hw1 w1)
  go_ret2
  exact ⟨by rw [HA.out]; rfl, Below.refl _ _⟩
 | true =>
  rw [he] at hE
  obtain ⟨m, rfl, hm⟩ := isE_nat he
  have hwk := rwalk_at h.tbl hm a false ha
  have HA : Hid (kloadR n vs F m a = if (Mu.walkV (F m) a false).2.2 = 0 then (Me.valR n vs (Mu.walkV (F m) a false).1 (Mu.walkV (F m) a false).2.1, Me.errW n (Mu.walkV (F m) a false).1 (Mu.walkV (F m) a false).2.1) else (0, (Mu.walkV (F m) a false).2.2)) := by
   show _ = _
   simp only [kloadR, he, if_true, Int.toNat_natCast]
  have HK : Hid _ := h
  have i3 : (m : Int) < 12 := by omega
  clear he h
  generalize Mu.walkV (F m) a false = r at *
  generalize kloadR n vs F m a = R at *
  obtain ⟨f, k, er⟩ := r
  dsimp only [Mu.t3] at *
  by_cases h0 : er = 0
  ·subst h0
   have HA2 : Hid (R = (Me.valR n vs f k, Me.errW n f k)) := HA.out
   clear HA
   have hrd : ∀ W, RkAt W X Q n vs L last F → _ := fun W hW => Me.rread_all (W := W) hW.mem f k
   generalize Me.valR n vs f k = V at *
   generalize Me.errW n f k = E at *
   go_enter Tryz.func93, Tryz.ntmps93
   go_wp2_with fail
   refine (hE _).mono ?_
   rintro x w1 ⟨rfl, hw1⟩
   rw [hw1]
   clear hw1 w1
   go_wp2_with fail
   refine hwk.mono ?_
   rintro x w1 ⟨rfl, hb1⟩
   have hK1 := HK.out.below hb1
   have hc0 := hK1.x0
   have hr1 := hrd w1 hK1
   clear hK1 hrd hwk hE
   go_wp2_with fail
   refine hr1.mono ?_
   rintro x w2 ⟨rfl, hw2⟩
   rw [hw2]
   clear hw2 w2
   go_wp2_with fail
   go_ret2
   exact ⟨by rw [HA2.out]; rfl, hb1⟩
  ·have HA2 : Hid (R = (0, er)) := by
    show _ = _
    rw [HA.out, if_neg h0]
   clear HA
   go_enter Tryz.func93, Tryz.ntmps93
   go_wp2_with fail
   refine (hE _).mono ?_
   rintro x w1 ⟨rfl, hw1⟩
   rw [hw1]
   clear hw1 w1
   go_wp2_with fail
   refine hwk.mono ?_
   rintro x w1 ⟨rfl, hb1⟩
   go_wp2_with fail
   go_ret2
   exact ⟨by rw [HA2.out]; rfl, hb1⟩
set_option maxHeartbeats 4000000 in
theorem rkstore_at (h : RkAt w X Q n vs L last F) (e a v : Int) (ha : 0 ≤ a) :
  Calls Tryz.prog 94 #[ptr X, .int .i64 e, .int .u64 a, .int .u64 v] w fun x w' => x = .returned (.int .i64 (kstoreR n F e a)) ∧ RkAt w' X Q n (kstoreV n vs F e a v) L last F ∧ UpdP (RFoot X Q n) w w' := by
 have hE := renv_at e
 cases he : isE e with
 | false =>
  rw [he] at hE
  have HA : Hid (kstoreR n F e a = 101 ∧ kstoreV n vs F e a v = vs) := by
   show _ ∧ _
   simp [kstoreR, kstoreV, he]
  have HK : Hid _ := h
  clear he h
  go_enter Tryz.func94, Tryz.ntmps94
  go_wp2_with (go_at_call 59; refine (hE _).mono ?_; rintro e w1 ⟨rfl, hw1⟩; rw [hw1]; clear hw1 w1)
  go_ret
  exact ⟨by rw [HA.out.1]; rfl, by rw [HA.out.2]; exact HK.out, UpdP.refl _ _⟩
 | true =>
  rw [he] at hE
  obtain ⟨m, rfl, hm⟩ := isE_nat he
  have hwk := rwalk_at h.tbl hm a true ha
  have HA : Hid (kstoreR n F m a = (if (Mu.walkV (F m) a true).2.2 = 0 then Me.errW n (Mu.walkV (F m) a true).1 (Mu.walkV (F m) a true).2.1 else (Mu.walkV (F m) a true).2.2) ∧ kstoreV n vs F m a v = if (Mu.walkV (F m) a true).2.2 = 0 then Me.putW n vs (Mu.walkV (F m) a true).1 (Mu.walkV (F m) a true).2.1 v else vs) := by
   show _ ∧ _
   simp only [kstoreR, kstoreV, he, if_true, Int.toNat_natCast, and_self]
  have HK : Hid _ := h
  have i3 : (m : Int) < 12 := by omega
  clear he h
  generalize Mu.walkV (F m) a true = r at *
  generalize kstoreR n F m a = R at *
  generalize kstoreV n vs F m a v = vs' at *
  obtain ⟨f, k, er⟩ := r
  dsimp only [Mu.t3] at *
  by_cases h0 : er = 0
  ·subst h0
   have HA2 : Hid (R = Me.errW n f k ∧ vs' = Me.putW n vs f k v) := HA.out
   clear HA
   have hrd : ∀ W, RkAt W X Q n vs L last F → _ := fun W hW => Me.rwrite_all (W := W) hW.mem f k v
   generalize Me.errW n f k = E at *
   go_enter Tryz.func94, Tryz.ntmps94
   go_wp2_with fail
   refine (hE _).mono ?_
   rintro x w1 ⟨rfl, hw1⟩
   rw [hw1]
   clear hw1 w1
   go_wp2_with fail
   refine hwk.mono ?_
   rintro x w1 ⟨rfl, hb1⟩
   have hK1 := HK.out.below hb1
   have hc0 := hK1.x0
   have hr1 := hrd w1 hK1
   have H1 : Hid _ := hK1
   clear hK1 hrd hwk hE
   go_wp2_with fail
   refine hr1.mono ?_
   rintro x w2 ⟨rfl, hM2, hu2⟩
   have H2 : Hid _ := H1.out.updM hM2 hu2
   have HU : Hid (UpdP (RFoot X Q n) w w2) := (UpdP.of_below hb1).trans (hu2.mono (fun b hb => Or.inr (Or.inr hb)))
   clear hM2 hu2 hr1 hc0
   go_wp2_with fail
   go_ret
   exact ⟨by rw [HA2.out.1]; rfl, by rw [HA2.out.2]; exact H2.out, HU.out⟩
  ·have HA2 : Hid (R = er ∧ vs' = vs) := by
    show _ ∧ _
    rw [HA.out.1, HA.out.2, if_neg h0, if_neg h0]
    exact ⟨rfl, rfl⟩
   clear HA
   go_enter Tryz.func94, Tryz.ntmps94
   go_wp2_with fail
   refine (hE _).mono ?_
   rintro x w1 ⟨rfl, hw1⟩
   rw [hw1]
   clear hw1 w1
   go_wp2_with fail
   refine hwk.mono ?_
   rintro x w1 ⟨rfl, hb1⟩
   go_wp2_with fail
   go_ret
   exact ⟨by rw [HA2.out.1]; rfl, by rw [HA2.out.2]; exact HK.out.below hb1, UpdP.of_below hb1⟩
set_option maxHeartbeats 4000000 in
theorem rkcopy_at (h : RkAt w X Q n vs L last F) (hk : Lnk T L last n F) (e a b : Int) :
  Calls Tryz.prog 95 #[ptr X, .int .i64 e, .int .i64 a, .int .i64 b] w fun x w' => x = .returned (.int .i64 (kcopyR T n e a b)) ∧ RkAt w' X Q n (kcopyV T n vs e a b) L last F ∧ UpdP (RFoot X Q n) w w' := by
 have h1 := rkcap_at h hk e a 2 (Or.inr (Or.inl rfl))
 have h2 : ∀ W, RkAt W X Q n vs L last F → _ := fun W hW => rkcap_at (w := W) hW hk e b 1 (Or.inl rfl)
 have HA : Hid (kcopyR T n e a b = (match frm T e a 2, frm T e b 1 with | some f, some g => Me.errC n f g | _, _ => 104) ∧ kcopyV T n vs e a b = match frm T e a 2, frm T e b 1 with | some f, some g => Me.putC n vs f g | _, _ => vs) := ⟨rfl, rfl⟩
 have HI1 : Hid (∀ f, frm T e a 2 = some f → (getT T e a).id = f) := fun f hf => frm_id hf
 have HI2 : Hid (∀ f, frm T e b 1 = some f → (getT T e b).id = f) := fun f hf => frm_id hf
 have HK : Hid _ := h
 clear h hk
 generalize frm T e a 2 = p at *
 generalize frm T e b 1 = q at *
 generalize (getT T e a).id = ia at *
 generalize (getT T e b).id = ib at *
 generalize kcopyR T n e a b = R at *
 generalize kcopyV T n vs e a b = vs' at *
 cases p with
 | none =>
  have HA2 : Hid (R = 104 ∧ vs' = vs) := HA.out
  clear HA
  cases q
  all_goals
   simp only [Option.isSome_none, Option.isSome_some] at h1 h2
   go_enter Tryz.func95, Tryz.ntmps95
   go_wp2_with fail
   refine h1.mono ?_
   rintro x w1 ⟨rfl, hb1⟩
   go_wp2_with fail
   refine (h2 w1 (HK.out.below hb1)).mono ?_
   rintro x w2 ⟨rfl, hb2⟩
   go_wp2_with fail
   go_ret
   exact ⟨by rw [HA2.out.1]; rfl, by rw [HA2.out.2]; exact (HK.out.below hb1).below hb2, UpdP.of_below (hb1.trans (hb2.mono hb1.size))⟩
 | some f =>
  have hia := HI1.out f rfl
  subst hia
  cases q with
  | none =>
   have HA2 : Hid (R = 104 ∧ vs' = vs) := HA.out
   clear HA
   simp only [Option.isSome_none, Option.isSome_some] at h1 h2
   go_enter Tryz.func95, Tryz.ntmps95
   go_wp2_with fail
   refine h1.mono ?_
   rintro x w1 ⟨rfl, hb1⟩
   go_wp2_with fail
   refine (h2 w1 (HK.out.below hb1)).mono ?_
   rintro x w2 ⟨rfl, hb2⟩
   go_wp2_with fail
   go_ret
   exact ⟨by rw [HA2.out.1]; rfl, by rw [HA2.out.2]; exact (HK.out.below hb1).below hb2, UpdP.of_below (hb1.trans (hb2.mono hb1.size))⟩
  | some g =>
   have hib := HI2.out g rfl
   subst hib
   have HA2 : Hid (R = Me.errC n ia ib ∧ vs' = Me.putC n vs ia ib) := HA.out
   clear HA HI1 HI2
   have hcp : ∀ W, RkAt W X Q n vs L last F → _ := fun W hW => Me.rcopy_all (W := W) hW.mem ia ib
   generalize Me.errC n ia ib = E at *
   simp only [Option.isSome_some] at h1 h2
   go_enter Tryz.func95, Tryz.ntmps95
   go_wp2_with fail
   refine h1.mono ?_
   rintro x w1 ⟨rfl, hb1⟩
   go_wp2_with fail
   refine (h2 w1 (HK.out.below hb1)).mono ?_
   rintro x w2 ⟨rfl, hb2⟩
   have hK2 := (HK.out.below hb1).below hb2
   have hc0 := hK2.x0
   have hr2 := hcp w2 hK2
   have H2 : Hid _ := hK2
   clear hK2 hcp h1 h2
   go_wp2_with fail
   refine hr2.mono ?_
   rintro x w3 ⟨rfl, hM3, hu3⟩
   have H3 : Hid _ := H2.out.updM hM3 hu3
   have HU : Hid (UpdP (RFoot X Q n) w w3) := (UpdP.of_below (hb1.trans (hb2.mono hb1.size))).trans (hu3.mono (fun b hb => Or.inr (Or.inr hb)))
   clear hM3 hu3 hr2 hc0
   go_wp2_with fail
   go_ret
   exact ⟨by rw [HA2.out.1]; rfl, by rw [HA2.out.2]; exact H3.out, HU.out⟩
theorem rkread_at (h : RkAt w X Q n vs L last F) (hk : Lnk T L last n F) (e s k : Int) :
  Calls Tryz.prog 96 #[ptr X, .int .i64 e, .int .i64 s, .int .i64 k] w fun x w' => x = .returned (.tuple #[.int .u64 (kreadR T n vs e s k).1, .int .i64 (kreadR T n vs e s k).2]) ∧ Below w.heap.size w w' := by
 have h1 := rkcap_at h hk e s 1 (Or.inl rfl)
 have HA : Hid (kreadR T n vs e s k = match frm T e s 1 with | none => (0, 104) | some f => (Me.valR n vs f k, Me.errW n f k)) := rfl
 have HI1 : Hid (∀ f, frm T e s 1 = some f → (getT T e s).id = f) := fun f hf => frm_id hf
 have HK : Hid _ := h
 clear h hk
 generalize frm T e s 1 = p at *
 generalize (getT T e s).id = ia at *
 generalize kreadR T n vs e s k = R at *
 cases p with
 | none =>
  have HA2 : Hid (R = (0, 104)) := HA.out
  clear HA
  simp only [Option.isSome_none] at h1
  go_enter Tryz.func96, Tryz.ntmps96
  go_wp2_with fail
  refine h1.mono ?_
  rintro x w1 ⟨rfl, hb1⟩
  go_wp2_with fail
  go_ret2
  exact ⟨by rw [HA2.out]; rfl, hb1⟩
 | some f =>
  have hia := HI1.out f rfl
  subst hia
  have HA2 : Hid (R = (Me.valR n vs ia k, Me.errW n ia k)) := HA.out
  clear HA HI1
  have hrd : ∀ W, RkAt W X Q n vs L last F → _ := fun W hW => Me.rread_all (W := W) hW.mem ia k
  generalize Me.valR n vs ia k = V at *
  generalize Me.errW n ia k = E at *
  simp only [Option.isSome_some] at h1
  go_enter Tryz.func96, Tryz.ntmps96
  go_wp2_with fail
  refine h1.mono ?_
  rintro x w1 ⟨rfl, hb1⟩
  have hK1 := HK.out.below hb1
  have hc0 := hK1.x0
  have hr1 := hrd w1 hK1
  clear hK1 hrd h1
  go_wp2_with fail
  refine hr1.mono ?_
  rintro x w2 ⟨rfl, hw2⟩
  rw [hw2]
  clear hw2 w2
  go_wp2_with fail
  go_ret2
  exact ⟨by rw [HA2.out]; rfl, hb1⟩
theorem rkwrite_at (h : RkAt w X Q n vs L last F) (hk : Lnk T L last n F) (e s k v : Int) :
  Calls Tryz.prog 97 #[ptr X, .int .i64 e, .int .i64 s, .int .i64 k, .int .u64 v] w fun x w' => x = .returned (.int .i64 (kwriteR T n e s k)) ∧ RkAt w' X Q n (kwriteV T n vs e s k v) L last F ∧ UpdP (RFoot X Q n) w w' := by
 have h1 := rkcap_at h hk e s 2 (Or.inr (Or.inl rfl))
 have HA : Hid (kwriteR T n e s k = (match frm T e s 2 with | none => 104 | some f => Me.errW n f k) ∧ kwriteV T n vs e s k v = match frm T e s 2 with | none => vs | some f => Me.putW n vs f k v) := ⟨rfl, rfl⟩
 have HI1 : Hid (∀ f, frm T e s 2 = some f → (getT T e s).id = f) := fun f hf => frm_id hf
 have HK : Hid _ := h
 clear h hk
 generalize frm T e s 2 = p at *
 generalize (getT T e s).id = ia at *
 generalize kwriteR T n e s k = R at *
 generalize kwriteV T n vs e s k v = vs' at *
 cases p with
 | none =>
  have HA2 : Hid (R = 104 ∧ vs' = vs) := HA.out
  clear HA
  simp only [Option.isSome_none] at h1
  go_enter Tryz.func97, Tryz.ntmps97
  go_wp2_with fail
  refine h1.mono ?_
  rintro x w1 ⟨rfl, hb1⟩
  go_wp2_with fail
  go_ret
  exact ⟨by rw [HA2.out.1]; rfl, by rw [HA2.out.2]; exact HK.out.below hb1, UpdP.of_below hb1⟩
 | some f =>
  have hia := HI1.out f rfl
  subst hia
  have HA2 : Hid (R = Me.errW n ia k ∧ vs' = Me.putW n vs ia k v) := HA.out
  clear HA HI1
  have hrd : ∀ W, RkAt W X Q n vs L last F → _ := fun W hW => Me.rwrite_all (W := W) hW.mem ia k v
  generalize Me.errW n ia k = E at *
  simp only [Option.isSome_some] at h1
  go_enter Tryz.func97, Tryz.ntmps97
  go_wp2_with fail
  refine h1.mono ?_
  rintro x w1 ⟨rfl, hb1⟩
  have hK1 := HK.out.below hb1
  have hc0 := hK1.x0
  have hr1 := hrd w1 hK1
  have H1 : Hid _ := hK1
  clear hK1 hrd h1
  go_wp2_with fail
  refine hr1.mono ?_
  rintro x w2 ⟨rfl, hM2, hu2⟩
  have H2 : Hid _ := H1.out.updM hM2 hu2
  have HU : Hid (UpdP (RFoot X Q n) w w2) := (UpdP.of_below hb1).trans (hu2.mono (fun b hb => Or.inr (Or.inr hb)))
  clear hM2 hu2 hr1 hc0
  go_wp2_with fail
  go_ret
  exact ⟨by rw [HA2.out.1]; rfl, by rw [HA2.out.2]; exact H2.out, HU.out⟩
set_option maxHeartbeats 4000000 in
theorem rkpage_at (h : RkAt w X Q n vs L last F) (e p : Int) :
  Calls Tryz.prog 44 #[ptr X, .int .i64 e, .int .i64 p] w fun x w' => x = .returned (.tuple #[Mu.pv ((kpageV F e p).getD (0, false)), .bool (kpageV F e p).isSome]) ∧ Below w.heap.size w w' := by
 have hE := renv_at e
 have hK := h.below (below_alloc w (.cells #[.int .i64 0, .bool false] 50))
 clear h
 cases he : isE e with
 | false =>
  rw [he] at hE
  have HA : Hid (kpageV F e p = none) := by
   show _ = _
   simp [kpageV, he]
  clear he hK
  go_enter Tryz.func44, Tryz.ntmps44
  go_wp2_with (go_at_call 59; refine (hE _).mono ?_; rintro e w1 ⟨rfl, hw1⟩; rw [hw1]; clear hw1 w1)
  (try simp only [Exit.inBlock, Exit.then])
  refine bodyPost_ret (v := .tuple #[.agg #[.int .i64 0, .bool false], .bool false]) ?_ rfl ⟨by rw [HA.out]; rfl, ?_⟩
  ·rw [results_cell_tmp rfl]
   go_simp
  ·(repeat' (first | exact Below.refl _ _ | refine Below.setCell ?_ (by simp) _ | refine Below.alloc ?_ (by simp) _))
 | true =>
  rw [he] at hE
  obtain ⟨m, rfl, hm⟩ := isE_nat he
  have ha := rat_at hK.tbl hm p
  have HA : Hid (kpageV F m p = F m p) := by
   show _ = _
   simp [kpageV, he]
  have i3 : (m : Int) < 12 := by omega
  clear he hK
  generalize F m p = r at *
  generalize hg : r.getD (0, false) = y at *
  obtain ⟨f, b⟩ := y
  have HR : Hid _ := hg
  clear hg
  generalize hi : r.isSome = B at *
  have HI : Hid _ := hi
  clear hi
  unfold Mu.pv at ha
  go_enter Tryz.func44, Tryz.ntmps44
  go_wp2_with fail
  refine (hE _).mono ?_
  rintro x w1 ⟨rfl, hw1⟩
  rw [hw1]
  clear hw1 w1
  go_wp2_with fail
  refine ha.mono ?_
  rintro x w1 ⟨rfl, hb1⟩
  obtain ⟨⟨c0, c1, f0, f1, hs⟩, hB⟩ := page_ret (0, false) false w w1 hb1
  have HB : Hid _ := hB
  clear hb1 hB hE ha
  go_wp2_with fail
  (try simp only [Exit.inBlock, Exit.then])
  refine bodyPost_ret (v := .tuple #[.agg #[.int .i64 f, .bool b], .bool B]) ?_ rfl ⟨by rw [HA.out, HR.out, HI.out]; rfl, ?_⟩
  ·rw [results_cell_tmp rfl]
   go_simp
  ·(repeat' (first | exact HB.out | refine Below.setCell ?_ (by simp) _ | refine Below.alloc ?_ (by simp) _))
end
end Ex
end Go.Proofs.YtbhpafgoofkkmaaGreatDoor
